/-
  Holes: how the places around a shape hang together: plain facts, nothing of the program.
-/
import Derived.Test.YtkcclhnligajeaaGreatDoorVaf
namespace Go.Proofs.YtkcclhnligajeaaGreatDoor

/-- A way from p to q by sides over places that are no cells. -/
inductive Pth (l : List Cl) (p : Cl) : Cl → Prop
  | base : p ∉ l → Pth l p p
  | step {q : Cl} (d : Nat) : Pth l p q → d < 4 → nbC q d ∉ l → Pth l p (nbC q d)
theorem Pth.fst {l : List Cl} {p q : Cl} (h : Pth l p q) : p ∉ l := by
  induction h with
  | base h => exact h
  | step _ _ _ _ ih => exact ih
theorem Pth.snd {l : List Cl} {p q : Cl} (h : Pth l p q) : q ∉ l := by
  cases h with
  | base h => exact h
  | step _ _ _ h => exact h
theorem Pth.trans {l : List Cl} {p q r : Cl} (h : Pth l p q) (k : Pth l q r) : Pth l p r := by
  induction k with
  | base _ => exact h
  | step d _ hd hn ih => exact .step d ih hd hn
theorem nb_opp (c : Cl) {d : Nat} (hd : d < 4) : ∃ e, e < 4 ∧ nbC (nbC c d) e = c := by
  have h := nb_back02 c
  have : d = 0 ∨ d = 1 ∨ d = 2 ∨ d = 3 := by omega
  rcases this with rfl | rfl | rfl | rfl
  · exact ⟨2, by omega, h.1⟩
  · exact ⟨3, by omega, h.2.2.1⟩
  · exact ⟨0, by omega, h.2.1⟩
  · exact ⟨1, by omega, h.2.2.2⟩
theorem Pth.back {l : List Cl} {q : Cl} {d : Nat} (hq : q ∉ l) (hd : d < 4) (hn : nbC q d ∉ l) : Pth l (nbC q d) q := by
  obtain ⟨e, he, h⟩ := nb_opp q hd
  have := Pth.step (l := l) (p := nbC q d) e (.base hn) he (by rw [h]; exact hq)
  rw [h] at this
  exact this
theorem Pth.symm {l : List Cl} {p q : Cl} (h : Pth l p q) : Pth l q p := by
  induction h with
  | base h => exact .base h
  | step d hp hd hn ih => exact (Pth.back hp.snd hd hn).trans ih
theorem Pth.one {l : List Cl} {q : Cl} {d : Nat} (hq : q ∉ l) (hd : d < 4) (hn : nbC q d ∉ l) : Pth l q (nbC q d) := .step d (.base hq) hd hn

/-- What is reached from somewhere left of all cells. -/
def OutP (l : List Cl) (q : Cl) : Prop := ∃ p : Cl, (∀ c ∈ l, p.1 < c.1) ∧ Pth l p q
theorem OutP.free {l : List Cl} {q : Cl} (h : OutP l q) : q ∉ l := by obtain ⟨_, _, h⟩ := h; exact h.snd
theorem OutP.pth {l : List Cl} {p q : Cl} (h : OutP l p) (k : Pth l p q) : OutP l q := by obtain ⟨r, h1, h2⟩ := h; exact ⟨r, h1, h2.trans k⟩
theorem out_left {l : List Cl} {q : Cl} (h : ∀ c ∈ l, q.1 < c.1) : OutP l q := ⟨q, h, .base fun hc => by have := h q hc; omega⟩
theorem bd_low (f : Cl → Int) : ∀ l : List Cl, ∃ m : Int, ∀ c ∈ l, m < f c
  | [] => ⟨0, fun c h => by cases h⟩
  | a :: l => by
    obtain ⟨m, h⟩ := bd_low f l
    refine ⟨min m (f a - 1), fun c hc => ?_⟩
    rcases List.mem_cons.1 hc with rfl | hc
    · omega
    · have := h c hc; omega
theorem bd_high (f : Cl → Int) : ∀ l : List Cl, ∃ m : Int, ∀ c ∈ l, f c < m
  | [] => ⟨0, fun c h => by cases h⟩
  | a :: l => by
    obtain ⟨m, h⟩ := bd_high f l
    refine ⟨max m (f a + 1), fun c hc => ?_⟩
    rcases List.mem_cons.1 hc with rfl | hc
    · omega
    · have := h c hc; omega
/-- A place with no cell to the left in its row. -/
theorem out_ray {l : List Cl} {q : Cl} (h : ∀ c ∈ l, c.2 = q.2 → q.1 < c.1) : OutP l q := by
  obtain ⟨m, hm⟩ := bd_low Prod.fst l
  have key : ∀ (n : Nat) (q : Cl), q.1 ≤ m + n → (∀ c ∈ l, c.2 = q.2 → q.1 < c.1) → OutP l q := by
    intro n
    induction n with
    | zero => intro q hq _; exact out_left fun c hc => by have := hm c hc; omega
    | succ n ih =>
      intro q hq hr
      obtain ⟨x, y⟩ := q
      dsimp only at hq hr
      have hs := nb2 x y
      have h1 := ih (nbC (x, y) 2) (by rw [hs]; dsimp only; omega) (by rw [hs]; intro c hc e; dsimp only at e ⊢; have := hr c hc e; omega)
      have hf : (x, y) ∉ l := fun hc => by have := hr _ hc rfl; dsimp only at this; omega
      have h0 : nbC (nbC (x, y) 2) 0 = (x, y) := (nb_back02 (x, y)).2.1
      have := Pth.one (l := l) (q := nbC (x, y) 2) (d := 0) h1.free (by omega) (by rw [h0]; exact hf)
      rw [h0] at this
      exact h1.pth this
  exact key (q.1 - m).toNat q (by omega) h
theorem out_up {l : List Cl} {q : Cl} (h : ∀ c ∈ l, q.2 < c.2) : OutP l q := out_ray fun c hc e => by have := h c hc; omega
theorem out_down {l : List Cl} {q : Cl} (h : ∀ c ∈ l, c.2 < q.2) : OutP l q := out_ray fun c hc e => by have := h c hc; omega
theorem out_right {l : List Cl} {q : Cl} (h : ∀ c ∈ l, c.1 < q.1) : OutP l q := by
  obtain ⟨m, hm⟩ := bd_low Prod.snd l
  have key : ∀ (n : Nat) (q : Cl), q.2 ≤ m + n → (∀ c ∈ l, c.1 < q.1) → OutP l q := by
    intro n
    induction n with
    | zero => intro q hq _; exact out_up fun c hc => by have := hm c hc; omega
    | succ n ih =>
      intro q hq hr
      obtain ⟨x, y⟩ := q
      dsimp only at hq hr
      have hs := nb3 x y
      have h1 := ih (nbC (x, y) 3) (by rw [hs]; dsimp only; omega) (by rw [hs]; intro c hc; dsimp only; exact hr c hc)
      have hf : (x, y) ∉ l := fun hc => by have := hr _ hc; dsimp only at this; omega
      have h0 : nbC (nbC (x, y) 3) 1 = (x, y) := (nb_back02 (x, y)).2.2.2
      have := Pth.one (l := l) (q := nbC (x, y) 3) (d := 1) h1.free (by omega) (by rw [h0]; exact hf)
      rw [h0] at this
      exact h1.pth this
  exact key (q.2 - m).toNat q (by omega) h
/-- A place with no cell to the right in its row. -/
theorem out_rayr {l : List Cl} {q : Cl} (h : ∀ c ∈ l, c.2 = q.2 → c.1 < q.1) : OutP l q := by
  obtain ⟨m, hm⟩ := bd_high Prod.fst l
  have key : ∀ (n : Nat) (q : Cl), m ≤ q.1 + n → (∀ c ∈ l, c.2 = q.2 → c.1 < q.1) → OutP l q := by
    intro n
    induction n with
    | zero => intro q hq _; exact out_right fun c hc => by have := hm c hc; omega
    | succ n ih =>
      intro q hq hr
      obtain ⟨x, y⟩ := q
      dsimp only at hq hr
      have hs := nb0 x y
      have h1 := ih (nbC (x, y) 0) (by rw [hs]; dsimp only; omega) (by rw [hs]; intro c hc e; dsimp only at e ⊢; have := hr c hc e; omega)
      have hf : (x, y) ∉ l := fun hc => by have := hr _ hc rfl; dsimp only at this; omega
      have h0 : nbC (nbC (x, y) 0) 2 = (x, y) := (nb_back02 (x, y)).1
      have := Pth.one (l := l) (q := nbC (x, y) 0) (d := 2) h1.free (by omega) (by rw [h0]; exact hf)
      rw [h0] at this
      exact h1.pth this
  exact key (m - q.1).toNat q (by omega) h
/-- All cells lie strictly inside of a frame. -/
def InsF (l : List Cl) (a b u v : Int) : Prop := ∀ c ∈ l, a < c.1 ∧ c.1 < b ∧ u < c.2 ∧ c.2 < v
def inFr (a b u v : Int) (q : Cl) : Prop := a ≤ q.1 ∧ q.1 ≤ b ∧ u ≤ q.2 ∧ q.2 ≤ v
theorem inner_of {l : List Cl} {a b u v : Int} (h : InsF l a b u v) {q : Cl} (hq : ¬ OutP l q) : a < q.1 ∧ q.1 < b ∧ u < q.2 ∧ q.2 < v := by
  refine ⟨?_, ?_, ?_, ?_⟩
  · exact Classical.byContradiction fun h9 => hq (out_left fun c hc => by have := h c hc; omega)
  · exact Classical.byContradiction fun h9 => hq (out_right fun c hc => by have := h c hc; omega)
  · exact Classical.byContradiction fun h9 => hq (out_up fun c hc => by have := h c hc; omega)
  · exact Classical.byContradiction fun h9 => hq (out_down fun c hc => by have := h c hc; omega)
/-- Marks that hold a corner of the frame and are closed in it hold all that is outside. -/
theorem frame_all {l : List Cl} {a b u v : Int} (hl : InsF l a b u v) (hab : a < b) (huv : u < v) (G : Cl → Prop) (h0 : G (a, u)) (hG : ∀ q, G q → ∀ d, d < 4 → inFr a b u v (nbC q d) → nbC q d ∉ l → G (nbC q d)) : ∀ q, inFr a b u v q → OutP l q → G q := by
  have hf : ∀ q : Cl, (q.1 = a ∨ q.1 = b ∨ q.2 = u ∨ q.2 = v) → q ∉ l := fun q hq hc => by have := hl q hc; omega
  have g0 : ∀ x y : Int, G (x, y) → inFr a b u v (x + 1, y) → (x + 1, y) ∉ l → G (x + 1, y) := fun x y h1 h2 h3 => by
    have := hG (x, y) h1 0 (by omega)
    rw [nb0] at this
    exact this h2 h3
  have g1 : ∀ x y : Int, G (x, y) → inFr a b u v (x, y + 1) → (x, y + 1) ∉ l → G (x, y + 1) := fun x y h1 h2 h3 => by
    have := hG (x, y) h1 1 (by omega)
    rw [nb1] at this
    exact this h2 h3
  have top : ∀ n : Nat, a + n ≤ b → G (a + n, u) := by
    intro n
    induction n with
    | zero => intro _; simpa using h0
    | succ n ih =>
      intro hn
      have e : a + ((n + 1 : Nat) : Int) = a + n + 1 := by omega
      rw [e]
      exact g0 _ _ (ih (by omega)) (by unfold inFr; dsimp only; omega) (hf _ (.inr (.inr (.inl rfl))))
  have left : ∀ n : Nat, u + n ≤ v → G (a, u + n) := by
    intro n
    induction n with
    | zero => intro _; simpa using h0
    | succ n ih =>
      intro hn
      have e : u + ((n + 1 : Nat) : Int) = u + n + 1 := by omega
      rw [e]
      exact g1 _ _ (ih (by omega)) (by unfold inFr; dsimp only; omega) (hf _ (.inl rfl))
  have right : ∀ n : Nat, u + n ≤ v → G (b, u + n) := by
    intro n
    induction n with
    | zero =>
      intro _
      have := top (b - a).toNat (by omega)
      rw [show a + ((b - a).toNat : Int) = b by omega] at this
      simpa using this
    | succ n ih =>
      intro hn
      have e : u + ((n + 1 : Nat) : Int) = u + n + 1 := by omega
      rw [e]
      exact g1 _ _ (ih (by omega)) (by unfold inFr; dsimp only; omega) (hf _ (.inr (.inl rfl)))
  have bot : ∀ n : Nat, a + n ≤ b → G (a + n, v) := by
    intro n
    induction n with
    | zero =>
      intro _
      have := left (v - u).toNat (by omega)
      rw [show u + ((v - u).toNat : Int) = v by omega] at this
      simpa using this
    | succ n ih =>
      intro hn
      have e : a + ((n + 1 : Nat) : Int) = a + n + 1 := by omega
      rw [e]
      exact g0 _ _ (ih (by omega)) (by unfold inFr; dsimp only; omega) (hf _ (.inr (.inr (.inr rfl))))
  have border : ∀ q : Cl, inFr a b u v q → (q.1 = a ∨ q.1 = b ∨ q.2 = u ∨ q.2 = v) → G q := by
    rintro ⟨x, y⟩ hq hb
    unfold inFr at hq
    dsimp only at hq hb
    rcases hb with rfl | rfl | rfl | rfl
    · have := left (y - u).toNat (by omega)
      rw [show u + ((y - u).toNat : Int) = y by omega] at this
      exact this
    · have := right (y - u).toNat (by omega)
      rw [show u + ((y - u).toNat : Int) = y by omega] at this
      exact this
    · have := top (x - a).toNat (by omega)
      rw [show a + ((x - a).toNat : Int) = x by omega] at this
      exact this
    · have := bot (x - a).toNat (by omega)
      rw [show a + ((x - a).toNat : Int) = x by omega] at this
      exact this
  have row : ∀ (y : Int) (n : Nat), inFr a b u v (a + n, y) → (∀ c ∈ l, a + n < c.1) → G (a + n, y) := by
    intro y n
    induction n with
    | zero => intro h1 _; exact border _ h1 (.inl (by simp))
    | succ n ih =>
      intro h1 h2
      have e : a + ((n + 1 : Nat) : Int) = a + n + 1 := by omega
      rw [e] at h1 h2 ⊢
      unfold inFr at h1
      dsimp only at h1
      exact g0 _ _ (ih (by unfold inFr; dsimp only; omega) (fun c hc => by have := h2 c hc; omega)) (by unfold inFr; dsimp only; omega) (fun hc => by have := h2 _ hc; dsimp only at this; omega)
  rintro q hq ⟨p, hp, hpth⟩
  induction hpth with
  | base _ =>
    obtain ⟨x, y⟩ := p
    have hq' := hq
    unfold inFr at hq'
    dsimp only at hq' hp
    have := row y (x - a).toNat
    rw [show a + ((x - a).toNat : Int) = x by omega] at this
    exact this hq hp
  | step d hpr hd hn ih =>
    rename_i q0
    by_cases hin : inFr a b u v q0
    · exact hG _ (ih hin) d hd hq hn
    · refine border _ hq ?_
      obtain ⟨x, y⟩ := q0
      have : d = 0 ∨ d = 1 ∨ d = 2 ∨ d = 3 := by omega
      unfold inFr at hin hq
      rcases this with rfl | rfl | rfl | rfl
      · rw [nb0] at hq ⊢; dsimp only at *; omega
      · rw [nb1] at hq ⊢; dsimp only at *; omega
      · rw [nb2] at hq ⊢; dsimp only at *; omega
      · rw [nb3] at hq ⊢; dsimp only at *; omega

/-! ### Holes: the first place of each -/
def Lead (l : List Cl) (q : Cl) : Prop := q ∉ l ∧ ¬ OutP l q ∧ ∀ p, Pth l p q → bef p q = false
/-- What is outside, or in a hole with a place ahead of c. -/
def Seen (l : List Cl) (c q : Cl) : Prop := OutP l q ∨ ∃ p, bef p c = true ∧ Pth l p q
theorem Seen.free {l : List Cl} {c q : Cl} (h : Seen l c q) : q ∉ l := by
  rcases h with h | ⟨p, _, h⟩
  · exact h.free
  · exact h.snd
theorem Seen.pth {l : List Cl} {c p q : Cl} (h : Seen l c p) (k : Pth l p q) : Seen l c q := by
  rcases h with h | ⟨r, h1, h2⟩
  · exact .inl (h.pth k)
  · exact .inr ⟨r, h1, h2.trans k⟩
theorem lead_iff (l : List Cl) (q : Cl) : Lead l q ↔ q ∉ l ∧ ¬ Seen l q q := by
  unfold Lead Seen
  constructor
  · rintro ⟨h1, h2, h3⟩
    refine ⟨h1, ?_⟩
    rintro (h | ⟨p, hp, hq⟩)
    · exact h2 h
    · rw [h3 p hq] at hp; cases hp
  · rintro ⟨h1, h2⟩
    refine ⟨h1, fun h => h2 (.inl h), fun p hp => ?_⟩
    cases h : bef p q with
    | false => rfl
    | true => exact absurd (.inr ⟨p, h, hp⟩) h2
theorem Seen.of {l : List Cl} {a b q : Cl} (h : ∀ p, bef p a = true → bef p b = false → OutP l p) (hs : Seen l a q) : Seen l b q := by
  rcases hs with hs | ⟨p, h1, h2⟩
  · exact .inl hs
  · cases h3 : bef p b with
    | true => exact .inr ⟨p, h3, h2⟩
    | false => exact .inl ((h p h1 h3).pth h2)
/-- The next place in a row: not the first of a hole, or the first of one. -/
theorem bef_next (p : Cl) (x y : Int) : bef p (x + 1, y) = true ↔ bef p (x, y) = true ∨ p = (x, y) := by
  obtain ⟨a, b⟩ := p
  rw [bef_iff, bef_iff]
  dsimp only
  constructor
  · intro h
    by_cases h1 : b < y
    · exact .inl (.inl h1)
    · by_cases h2 : a < x
      · exact .inl (.inr ⟨by omega, h2⟩)
      · refine .inr ?_
        congr 1 <;> omega
  · rintro (h | h)
    · omega
    · injection h with h1 h2
      omega
theorem seen_next {l : List Cl} {x y : Int} (q : Cl) : Seen l (x + 1, y) q ↔ Seen l (x, y) q ∨ Pth l (x, y) q := by
  unfold Seen
  constructor
  · rintro (h | ⟨p, h1, h2⟩)
    · exact .inl (.inl h)
    · rcases (bef_next p x y).1 h1 with h3 | rfl
      · exact .inl (.inr ⟨p, h3, h2⟩)
      · exact .inr h2
  · rintro ((h | ⟨p, h1, h2⟩) | h)
    · exact .inl h
    · exact .inr ⟨p, (bef_next p x y).2 (.inl h1), h2⟩
    · exact .inr ⟨_, (bef_next _ x y).2 (.inr rfl), h⟩
theorem seen_next_no {l : List Cl} {x y : Int} (h : ¬ Lead l (x, y)) (q : Cl) : Seen l (x + 1, y) q ↔ Seen l (x, y) q := by
  rw [seen_next]
  refine ⟨?_, .inl⟩
  rintro (h1 | h1)
  · exact h1
  · rw [lead_iff] at h
    have h2 : Seen l (x, y) (x, y) := Classical.byContradiction fun h3 => h ⟨h1.fst, h3⟩
    exact h2.pth h1
/-- From the end of a row to the next one; ahead of the first. -/
theorem seen_row {l : List Cl} {a b u v : Int} (h : InsF l a b u v) {w o : Int} (hw : b ≤ w) (ho : o ≤ a + 1) (y : Int) (q : Cl) : Seen l (w, y) q ↔ Seen l (o, y + 1) q := by
  constructor
  · refine fun h1 => h1.of fun p h2 h3 => ?_
    rw [bef_iff] at h2
    rw [bef_not] at h3
    dsimp only at h2 h3
    omega
  · refine fun h1 => h1.of fun p h2 h3 => ?_
    rw [bef_iff] at h2
    rw [bef_not] at h3
    dsimp only at h2 h3
    by_cases h4 : p.2 = y
    · exact out_right fun c hc => by have := h c hc; omega
    · exact out_left fun c hc => by have := h c hc; omega
theorem seen_start {l : List Cl} {a b u v : Int} (h : InsF l a b u v) {o t : Int} (ho : o ≤ a + 1) (ht : t ≤ u + 1) (q : Cl) : Seen l (o, t) q ↔ OutP l q := by
  refine ⟨?_, .inl⟩
  rintro (h1 | ⟨p, h1, h2⟩)
  · exact h1
  · refine OutP.pth ?_ h2
    rw [bef_iff] at h1
    dsimp only at h1
    by_cases h4 : p.2 < t
    · exact out_up fun c hc => by have := h c hc; omega
    · exact out_left fun c hc => by have := h c hc; omega
theorem lead_in {l : List Cl} {a b u v : Int} (h : InsF l a b u v) {q : Cl} (hq : Lead l q) : a < q.1 ∧ q.1 < b ∧ u < q.2 ∧ q.2 < v := inner_of h hq.2.1

/-! ### Counting them -/
noncomputable def leadB (l : List Cl) (q : Cl) : Bool := @decide (Lead l q) (Classical.propDecidable _)
theorem leadB_iff (l : List Cl) (q : Cl) : leadB l q = true ↔ Lead l q := by unfold leadB; simp
noncomputable def cntL (l : List Cl) (L : List Cl) : Nat := (L.filter (leadB l)).length
theorem cntL_snoc (l L : List Cl) (q : Cl) : cntL l (L ++ [q]) = cntL l L + (leadB l q).toNat := by unfold cntL; rw [List.filter_append, List.length_append, filter_one]
theorem cntL_yes {l : List Cl} (L : List Cl) {q : Cl} (h : Lead l q) : cntL l (L ++ [q]) = cntL l L + 1 := by rw [cntL_snoc, (leadB_iff l q).2 h]; rfl
theorem cntL_no {l : List Cl} (L : List Cl) {q : Cl} (h : ¬ Lead l q) : cntL l (L ++ [q]) = cntL l L := by
  have : leadB l q = false := by rw [← Bool.not_eq_true, leadB_iff]; exact h
  rw [cntL_snoc, this]
  rfl
theorem cntL_le (l L : List Cl) : cntL l L ≤ L.length := List.length_filter_le _ _
def gRow (y : Int) : Nat → List Cl
  | 0 => []
  | x + 1 => gRow y x ++ [((x : Int), y)]
def gTo (w : Nat) : Nat → List Cl
  | 0 => []
  | y + 1 => gTo w y ++ gRow y w
theorem mem_gRow (y : Int) (c : Cl) : ∀ n, c ∈ gRow y n ↔ c.2 = y ∧ 0 ≤ c.1 ∧ c.1 < n
  | 0 => by simp only [gRow, List.not_mem_nil, false_iff]; omega
  | n + 1 => by
    rw [gRow, List.mem_append, List.mem_singleton, mem_gRow y c n]
    obtain ⟨a, b⟩ := c
    dsimp only
    constructor
    · rintro (h | h)
      · omega
      · injection h with h1 h2; omega
    · intro h
      by_cases e : a = n
      · exact .inr (by congr 1 <;> omega)
      · exact .inl (by omega)
theorem mem_gTo (w : Nat) (c : Cl) : ∀ n, c ∈ gTo w n ↔ (0 ≤ c.2 ∧ c.2 < n) ∧ 0 ≤ c.1 ∧ c.1 < w
  | 0 => by simp [gTo]; omega
  | n + 1 => by
    rw [gTo, List.mem_append, mem_gTo w c n, mem_gRow]
    omega
theorem gRow_srt (y : Int) : ∀ n, Srt (gRow y n)
  | 0 => List.Pairwise.nil
  | n + 1 => by
    unfold Srt
    rw [gRow, List.pairwise_append]
    refine ⟨gRow_srt y n, by simp, fun a ha b hb => ?_⟩
    rw [List.mem_singleton] at hb
    subst hb
    have := (mem_gRow y a n).1 ha
    rw [bef_iff]
    dsimp only
    omega
theorem gTo_srt (w : Nat) : ∀ n, Srt (gTo w n)
  | 0 => List.Pairwise.nil
  | n + 1 => by
    unfold Srt
    rw [gTo, List.pairwise_append]
    refine ⟨gTo_srt w n, gRow_srt _ _, fun a ha b hb => ?_⟩
    have h1 := (mem_gTo w a n).1 ha
    have h2 := (mem_gRow _ b w).1 hb
    rw [bef_iff]
    omega
theorem gRow_len (y : Int) : ∀ n, (gRow y n).length = n
  | 0 => rfl
  | n + 1 => by rw [gRow, List.length_append, gRow_len y n]; rfl
theorem gTo_len (w : Nat) : ∀ n, (gTo w n).length = w * n
  | 0 => rfl
  | n + 1 => by rw [gTo, List.length_append, gTo_len w n, gRow_len, Nat.mul_succ]

/-! ### Moved -/
theorem nb_shift (c : Cl) (x y : Int) (d : Nat) : nbC (c.1 + x, c.2 + y) d = ((nbC c d).1 + x, (nbC c d).2 + y) := by
  unfold nbC
  dsimp only
  congr 1 <;> omega
theorem mem_moved (l : List Cl) (x y : Int) (q : Cl) : (q.1 + x, q.2 + y) ∈ moveC x y l ↔ q ∈ l := by
  unfold moveC
  constructor
  · intro h
    obtain ⟨d, hd, e⟩ := List.mem_map.1 h
    injection e with e1 e2
    have : d = q := by
      obtain ⟨a, b⟩ := d
      obtain ⟨u, v⟩ := q
      dsimp only at e1 e2
      congr 1 <;> omega
    exact this ▸ hd
  · intro h
    exact List.mem_map.2 ⟨q, h, rfl⟩
theorem Pth.moved {l : List Cl} {p q : Cl} (x y : Int) (h : Pth l p q) : Pth (moveC x y l) (p.1 + x, p.2 + y) (q.1 + x, q.2 + y) := by
  induction h with
  | base h => exact .base (by rw [mem_moved]; exact h)
  | step d _ hd hn ih =>
    rename_i q0
    have := Pth.step d ih hd (by rw [nb_shift, mem_moved]; exact hn)
    rw [nb_shift] at this
    exact this
theorem OutP.moved {l : List Cl} {q : Cl} (x y : Int) (h : OutP l q) : OutP (moveC x y l) (q.1 + x, q.2 + y) := by
  obtain ⟨p, h1, h2⟩ := h
  refine ⟨_, fun c hc => ?_, h2.moved x y⟩
  obtain ⟨d, hd, rfl⟩ := List.mem_map.1 hc
  have := h1 d hd
  dsimp only
  omega
theorem back_cell (q : Cl) (x y : Int) : ((q.1 + x + -x, q.2 + y + -y) : Cl) = q := by
  obtain ⟨a, b⟩ := q
  dsimp only
  congr 1 <;> omega
theorem Lead.moved {l : List Cl} {q : Cl} (x y : Int) (h : Lead l q) : Lead (moveC x y l) (q.1 + x, q.2 + y) := by
  obtain ⟨h1, h2, h3⟩ := h
  refine ⟨by rw [mem_moved]; exact h1, fun ho => h2 ?_, fun p hp => ?_⟩
  · have := ho.moved (-x) (-y)
    rw [moveC_back] at this
    dsimp only at this
    rw [back_cell] at this
    exact this
  · have := hp.moved (-x) (-y)
    rw [moveC_back] at this
    dsimp only at this
    rw [back_cell] at this
    have h4 := h3 _ this
    rw [bef_not] at h4 ⊢
    dsimp only at h4 ⊢
    omega
theorem cntL_moved_le {l L L2 : List Cl} (x y : Int) (hL : L.Nodup) (h2 : ∀ q, Lead (moveC x y l) q → q ∈ L2) : cntL l L ≤ cntL (moveC x y l) L2 := by
  have h := nodup_sub_len ((L.filter (leadB l)).map fun q => (q.1 + x, q.2 + y)) (L2.filter (leadB (moveC x y l))) (by
    refine List.Pairwise.map _ (fun a b hab => ?_) (List.Pairwise.filter _ hL)
    intro he
    injection he with e1 e2
    refine hab ?_
    obtain ⟨a1, a2⟩ := a
    obtain ⟨b1, b2⟩ := b
    dsimp only at e1 e2
    congr 1 <;> omega) (fun c hc => by
    obtain ⟨q, hq, rfl⟩ := List.mem_map.1 hc
    rw [List.mem_filter, leadB_iff] at hq ⊢
    have := hq.2.moved x y
    exact ⟨h2 _ this, this⟩)
  rw [List.length_map] at h
  exact h
theorem cntL_moved {l L L2 : List Cl} (x y : Int) (hL : L.Nodup) (hL2 : L2.Nodup) (h1 : ∀ q, Lead l q → q ∈ L) (h2 : ∀ q, Lead (moveC x y l) q → q ∈ L2) : cntL l L = cntL (moveC x y l) L2 := by
  refine Nat.le_antisymm (cntL_moved_le x y hL h2) ?_
  have := cntL_moved_le (l := moveC x y l) (L := L2) (L2 := L) (-x) (-y) hL2 (by rw [moveC_back]; exact h1)
  rw [moveC_back] at this
  exact this
/-- The number of holes: first places in a grid that holds all cells. -/
noncomputable def holesN (l : List Cl) : Nat := cntL (moveC 1 1 l) (gTo 10 10)
theorem holes_corner {l : List Cl} (hl : InsF l (-1) 8 (-1) 8) (w h : Nat) (hc : InsF (cornerC l) (-1) w (-1) h) : cntL (cornerC l) (gTo w h) = holesN l := by
  have e : moveC 1 1 l = moveC (1 + minX l) (1 + minY l) (cornerC l) := by
    rw [cornerC_move, moveC_move]
    congr 1 <;> omega
  unfold holesN
  rw [e]
  refine cntL_moved _ _ (srt_nodup (gTo_srt _ _)) (srt_nodup (gTo_srt _ _)) (fun q hq => ?_) (fun q hq => ?_)
  · have := lead_in hc hq
    rw [mem_gTo]
    omega
  · rw [← e] at hq
    have hm : InsF (moveC 1 1 l) 0 9 0 9 := fun c hc => by
      obtain ⟨d, hd, rfl⟩ := List.mem_map.1 hc
      have := hl d hd
      dsimp only
      omega
    have := lead_in hm hq
    rw [mem_gTo]
    omega

/-! ### A queue of places -/
structure Bq (A R : Cl → Prop) (old sn : List Cl) (i k : Nat) : Prop where
  nodup : sn.Nodup
  pre : ∃ new, sn = old ++ new
  all : ∀ j, old.length ≤ j → j < sn.length → R (sn.getD j (0, 0))
  done : ∀ j, old.length ≤ j → j < i → ∀ d, d < 4 → A (nbC (sn.getD j (0, 0)) d) → nbC (sn.getD j (0, 0)) d ∈ sn
  part : ∀ d, d < k → A (nbC (sn.getD i (0, 0)) d) → nbC (sn.getD i (0, 0)) d ∈ sn
theorem Bq.start (A R : Cl → Prop) (old : List Cl) (p : Cl) (ho : old.Nodup) (hp : p ∉ old) (hr : R p) : Bq A R old (old ++ [p]) old.length 0 where
  nodup := by
    rw [List.nodup_append]
    exact ⟨ho, by simp, fun a ha b hb e => by rw [List.mem_singleton] at hb; subst hb; exact hp (e ▸ ha)⟩
  pre := ⟨_, rfl⟩
  all := fun j h1 h2 => by
    rw [List.length_append, List.length_singleton] at h2
    obtain rfl : j = old.length := by omega
    have : (old ++ [p]).getD old.length (0, 0) = p := by simp [List.getD]
    rw [this]
    exact hr
  done := fun j h1 h2 => by omega
  part := fun d hd => by omega
theorem Bq.skip {A R : Cl → Prop} {old sn : List Cl} {i k : Nat} (h : Bq A R old sn i k) (hn : A (nbC (sn.getD i (0, 0)) k) → nbC (sn.getD i (0, 0)) k ∈ sn) : Bq A R old sn i (k + 1) :=
  ⟨h.nodup, h.pre, h.all, h.done, fun d hd ha => by
    by_cases e : d = k
    · subst e; exact hn ha
    · exact h.part d (by omega) ha⟩
theorem Bq.add {A R : Cl → Prop} {old sn : List Cl} {i k : Nat} (h : Bq A R old sn i k) (hi : i < sn.length) {q : Cl} (e : nbC (sn.getD i (0, 0)) k = q) (hno : q ∉ sn) (hr : R q) : Bq A R old (sn ++ [q]) i (k + 1) where
  nodup := by
    rw [List.nodup_append]
    exact ⟨h.nodup, by simp, fun a ha b hb e9 => by rw [List.mem_singleton] at hb; subst hb; exact hno (e9 ▸ ha)⟩
  pre := by obtain ⟨new, hnew⟩ := h.pre; exact ⟨new ++ [q], by rw [hnew, List.append_assoc]⟩
  all := fun j h1 h2 => by
    rw [List.length_append, List.length_singleton] at h2
    by_cases e9 : j < sn.length
    · rw [getD_app e9]; exact h.all j h1 e9
    · obtain rfl : j = sn.length := by omega
      have : (sn ++ [q]).getD sn.length (0, 0) = q := by simp [List.getD]
      rw [this]
      exact hr
  done := fun j h1 h2 d hd ha => by
    rw [getD_app (by omega)] at ha ⊢
    exact List.mem_append_left _ (h.done j h1 h2 d hd ha)
  part := fun d hd ha => by
    rw [getD_app hi] at ha ⊢
    by_cases e9 : d = k
    · subst e9; rw [e]; exact List.mem_append_right _ (List.mem_singleton.2 rfl)
    · exact List.mem_append_left _ (h.part d (by omega) ha)
theorem Bq.next {A R : Cl → Prop} {old sn : List Cl} {i : Nat} (h : Bq A R old sn i 4) : Bq A R old sn (i + 1) 0 :=
  ⟨h.nodup, h.pre, h.all, fun j h1 h2 d hd ha => by
    by_cases e : j = i
    · subst e; exact h.part d hd ha
    · exact h.done j h1 (by omega) d hd ha, fun d hd => by omega⟩
theorem in_grid {sn : List Cl} (hn : sn.Nodup) {w h : Nat} (hw : w ≤ 8) (hh : h ≤ 8) (hi : ∀ q ∈ sn, inFr (-1) w (-1) h q) : sn.length ≤ 100 := by
  have h2 := nodup_sub_len (sn.map fun q => ((q.1 + 1, q.2 + 1) : Cl)) (gTo 10 10) (by
    refine List.Pairwise.map _ (fun a b hab => ?_) hn
    intro he
    injection he with e1 e2
    refine hab ?_
    obtain ⟨a1, a2⟩ := a
    obtain ⟨b1, b2⟩ := b
    dsimp only at e1 e2
    congr 1 <;> omega) (fun c hc => by
    obtain ⟨q, hq, rfl⟩ := List.mem_map.1 hc
    have := hi q hq
    unfold inFr at this
    rw [mem_gTo]
    dsimp only
    omega)
  rw [List.length_map, gTo_len] at h2
  exact h2
/-- The queue over all that is outside, in a frame. -/
theorem Bq.outside {l sn : List Cl} {w h : Int} (hl : InsF l (-1) w (-1) h) (hw : 0 ≤ w) (hh : 0 ≤ h) (hs : (-1, -1) ∈ sn) (hq : Bq (fun q => inFr (-1) w (-1) h q ∧ q ∉ l) (fun q => inFr (-1) w (-1) h q ∧ OutP l q) [] sn sn.length 0) (q : Cl) : q ∈ sn ↔ inFr (-1) w (-1) h q ∧ OutP l q := by
  constructor
  · intro hm
    obtain ⟨j, hj, rfl⟩ := mem_getD hm
    exact hq.all j (by simp) hj
  · rintro ⟨h1, h2⟩
    refine frame_all hl (by omega) (by omega) (fun q => q ∈ sn) hs (fun q hm d hd hi hn => ?_) q h1 h2
    obtain ⟨j, hj, rfl⟩ := mem_getD hm
    exact hq.done j (by simp) hj d hd ⟨hi, hn⟩
/-- The queue over a hole. -/
theorem Bq.hole {l old sn : List Cl} {w h x y : Int} (hl : InsF l (-1) w (-1) h) (hold : ∀ q, q ∈ old ↔ inFr (-1) w (-1) h q ∧ Seen l (x, y) q) (hp : Lead l (x, y)) (hps : (x, y) ∈ sn) (hq : Bq (fun q => q ∉ l) (Pth l (x, y)) old sn sn.length 0) (q : Cl) : q ∈ sn ↔ inFr (-1) w (-1) h q ∧ Seen l (x + 1, y) q := by
  have hin : ∀ q, Pth l (x, y) q → inFr (-1) w (-1) h q := fun q hq => by
    have := inner_of hl (q := q) (fun ho => hp.2.1 (ho.pth hq.symm))
    unfold inFr
    omega
  have hno := (lead_iff l (x, y)).1 hp
  obtain ⟨new, hnew⟩ := hq.pre
  rw [seen_next]
  constructor
  · intro hm
    obtain ⟨j, hj, rfl⟩ := mem_getD hm
    by_cases h1 : j < old.length
    · have : sn.getD j (0, 0) ∈ old := by rw [hnew, getD_app h1]; exact getD_mem h1
      have h2 := (hold _).1 this
      exact ⟨h2.1, .inl h2.2⟩
    · have h2 := hq.all j (by omega) hj
      exact ⟨hin _ h2, .inr h2⟩
  · rintro ⟨h1, h2 | h2⟩
    · rw [hnew]
      exact List.mem_append_left _ ((hold q).2 ⟨h1, h2⟩)
    · clear h1
      induction h2 with
      | base _ => exact hps
      | step d hpq hd hn ih =>
        obtain ⟨j, hj, e⟩ := mem_getD ih
        by_cases h1 : j < old.length
        · exfalso
          have h3 : sn.getD j (0, 0) ∈ old := by rw [hnew, getD_app h1]; exact getD_mem h1
          rw [e] at h3
          exact hno.2 (((hold _).1 h3).2.pth hpq.symm)
        · have := hq.done j (by omega) hj d hd (by rw [e]; exact hn)
          rw [e] at this
          exact this

end Go.Proofs.YtkcclhnligajeaaGreatDoor
