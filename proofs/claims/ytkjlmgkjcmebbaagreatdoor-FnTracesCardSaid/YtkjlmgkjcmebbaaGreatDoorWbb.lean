/-
  The parts of a region that hang together by sides: plain facts, nothing of the program.
  An empty region, a cell set and taken away, a region copied: in the program and in the model: what each call gives.
  The cells of a region, in the model and in the program: what each call gives.
-/
import Derived.Test.YtkjlmgkjcmebbaaGreatDoorWag
import Derived.Test.YtkjlmgkjcmebbaaGreatDoorWba
import Derived.Test.YtkjlmgkjcmebbaaGreatDoorWaa
import Derived.Laws.CopyOwn
import Derived.Laws.AppendOwnNone
import Derived.Test.YtkjlmgkjcmebbaaGreatDoorWah
namespace Go.Proofs.YtkjlmgkjcmebbaaGreatDoor

section
/-- A way by sides over places with A. -/
inductive Way (A : Cl → Prop) (p : Cl) : Cl → Prop
  | base : A p → Way A p p
  | step {q r : Cl} : Way A p q → nearC q r = true → A r → Way A p r
theorem Way.fst {A : Cl → Prop} {p q : Cl} (h : Way A p q) : A p := by
  induction h with
  | base h => exact h
  | step _ _ _ ih => exact ih
theorem Way.snd {A : Cl → Prop} {p q : Cl} (h : Way A p q) : A q := by
  cases h with
  | base h => exact h
  | step _ _ h => exact h
theorem Way.trans {A : Cl → Prop} {p q r : Cl} (h : Way A p q) (k : Way A q r) : Way A p r := by
  induction k with
  | base _ => exact h
  | step _ hn ha ih => exact .step ih hn ha
theorem Way.mono {A B : Cl → Prop} (hs : ∀ q, A q → B q) {p q : Cl} (h : Way A p q) : Way B p q := by
  induction h with
  | base h => exact .base (hs _ h)
  | step _ hn ha ih => exact .step ih hn (hs _ ha)
theorem near_sym {a b : Cl} (h : nearC a b = true) : nearC b a = true := by
  rw [nearC_iff] at h ⊢
  omega
theorem Way.symm {A : Cl → Prop} {p q : Cl} (h : Way A p q) : Way A q p := by
  induction h with
  | base h => exact .base h
  | step hw hn ha ih => exact (Way.step (.base ha) (near_sym hn) hw.snd).trans ih
theorem near_of_nb {c : Cl} {d : Nat} (hd : d < 4) : nearC c (nbC c d) = true := by
  have : d = 0 ∨ d = 1 ∨ d = 2 ∨ d = 3 := by omega
  rw [nearC_iff]
  unfold nbC
  rcases this with rfl | rfl | rfl | rfl <;> simp <;> omega

/-- What a call takes away from A. -/
structure Mv (A A' : Cl → Prop) (c : Cl) : Prop where
  sub : ∀ q, A' q → A q
  path : ∀ q, A q → ¬ A' q → Way A c q
  self : ¬ A' c
  close : ∀ q, A q → ¬ A' q → ∀ r, nearC q r = true → ¬ A' r
/-- What it has taken so far. -/
structure Mp (A B : Cl → Prop) (c : Cl) (k : Nat) : Prop where
  sub : ∀ q, B q → A q
  path : ∀ q, A q → ¬ B q → Way A c q
  self : ¬ B c
  close : ∀ q, q ≠ c → A q → ¬ B q → ∀ r, nearC q r = true → ¬ B r
  part : ∀ d, d < k → ¬ B (nbC c d)
theorem Mv.off {A : Cl → Prop} {c : Cl} (h : ¬ A c) : Mv A A c := ⟨fun _ h => h, fun _ h1 h2 => absurd h1 h2, h, fun _ h1 h2 => absurd h1 h2⟩
theorem Mp.start {A B : Cl → Prop} {c : Cl} (hc : A c) (h : ∀ q, B q ↔ A q ∧ q ≠ c) : Mp A B c 0 where
  sub := fun q hq => ((h q).1 hq).1
  path := fun q h1 h2 => by
    by_cases e : q = c
    · subst e; exact .base hc
    · exact absurd ((h q).2 ⟨h1, e⟩) h2
  self := fun hq => ((h c).1 hq).2 rfl
  close := fun q hne h1 h2 => absurd ((h q).2 ⟨h1, hne⟩) h2
  part := fun d hd => by omega
theorem Mp.step {A B B' : Cl → Prop} {c : Cl} {d : Nat} (h : Mp A B c d) (hc : A c) (hd : d < 4) (k : Mv B B' (nbC c d)) : Mp A B' c (d + 1) where
  sub := fun q hq => h.sub q (k.sub q hq)
  path := fun q h1 h2 => by
    by_cases h3 : B q
    · have h4 := k.path q h3 h2
      have h5 := h4.mono h.sub
      exact (Way.step (.base hc) (near_of_nb hd) h5.fst).trans h5
    · exact h.path q h1 h3
  self := fun hq => h.self (k.sub c hq)
  close := fun q hne h1 h2 r hr hB => by
    by_cases h3 : B q
    · exact k.close q h3 h2 r hr hB
    · exact h.close q hne h1 h3 r hr (k.sub r hB)
  part := fun e he hB => by
    by_cases e9 : e = d
    · subst e9; exact k.self hB
    · exact h.part e (by omega) (k.sub _ hB)
theorem Mp.done {A B : Cl → Prop} {c : Cl} (h : Mp A B c 4) : Mv A B c where
  sub := h.sub
  path := h.path
  self := h.self
  close := fun q h1 h2 r hr => by
    by_cases e : q = c
    · subst e
      obtain ⟨d, hd, rfl⟩ := near_nb hr
      exact h.part d hd
    · exact h.close q e h1 h2 r hr
theorem Mv.all {A A' : Cl → Prop} {c : Cl} (h : Mv A A' c) (q : Cl) : A' q ↔ A q ∧ ¬ Way A c q := by
  constructor
  · intro hq
    refine ⟨h.sub q hq, fun hw => ?_⟩
    have key : ∀ r, Way A c r → ¬ A' r := fun r hr => by
      induction hr with
      | base _ => exact h.self
      | step hw hn ha ih => exact h.close _ hw.snd ih _ hn
    exact key q hw hq
  · rintro ⟨h1, h2⟩
    exact Classical.byContradiction fun h3 => h2 (h.path q h1 h3)

/-! ### Rows of some cells -/
def rowsOf (H : Nat) (cs : List Cl) : List Int := cs.foldl setB (zerosR H)
theorem foldl_set {W H : Nat} : ∀ (cs : List Cl) (l : List Int), Rg W H l → (∀ c ∈ cs, inG W H c) → Rg W H (cs.foldl setB l) ∧ ∀ q, bt (cs.foldl setB l) q = true ↔ bt l q = true ∨ q ∈ cs
  | [], l, h, _ => ⟨h, fun q => by simp⟩
  | c :: cs, l, h, hi => by
    have h1 := h.set (hi c (by simp))
    obtain ⟨h2, h3⟩ := foldl_set cs (setB l c) h1 (fun d hd => hi d (by simp [hd]))
    refine ⟨h2, fun q => ?_⟩
    rw [List.foldl_cons, h3 q, h.bt_set (hi c (by simp)), List.mem_cons]
    constructor
    · rintro ((h | h) | h)
      · exact .inl h
      · exact .inr (.inl h)
      · exact .inr (.inr h)
    · rintro (h | h | h)
      · exact .inl (.inl h)
      · exact .inl (.inr h)
      · exact .inr h
theorem rowsOf_facts {W H : Nat} (h1 : 1 ≤ W) (h2 : W ≤ 6) (h3 : 1 ≤ H) (h4 : H ≤ 6) {cs : List Cl} (hi : ∀ c ∈ cs, inG W H c) : Rg W H (rowsOf H cs) ∧ ∀ q, bt (rowsOf H cs) q = true ↔ q ∈ cs := by
  obtain ⟨h5, h6⟩ := foldl_set cs (zerosR H) (Rg.zeros h1 h2 h3 h4) hi
  refine ⟨h5, fun q => ?_⟩
  unfold rowsOf
  rw [h6 q, bt_zeros]
  simp
theorem rowsOf_snoc (H : Nat) (cs : List Cl) (c : Cl) : rowsOf H (cs ++ [c]) = setB (rowsOf H cs) c := by unfold rowsOf; rw [List.foldl_append]; rfl

/-! ### Parts -/
def InP (l : List Int) (q : Cl) : Prop := bt l q = true
noncomputable def dP (p : Prop) : Bool := @decide p (Classical.propDecidable p)
theorem dP_iff (p : Prop) : dP p = true ↔ p := @decide_eq_true_iff p (Classical.propDecidable p)
noncomputable def partR (W H : Nat) (l : List Int) (c : Cl) : List Int := rowsOf H ((cellsB W H l).filter fun q => dP (Way (InP l) c q))
theorem cellsB_inG {W H : Nat} {l : List Int} : ∀ c ∈ cellsB W H l, inG W H c := fun c hc => by
  have := (mem_gTo W c H).1 (List.mem_filter.1 hc).1
  unfold inG
  omega
theorem partR_facts {W H : Nat} {l : List Int} (h : Rg W H l) (c : Cl) : Rg W H (partR W H l c) ∧ ∀ q, bt (partR W H l c) q = true ↔ Way (InP l) c q := by
  obtain ⟨h1, h2⟩ := rowsOf_facts h.w0 h.w6 h.h0 h.h6 (cs := (cellsB W H l).filter fun q => dP (Way (InP l) c q)) (fun d hd => cellsB_inG d (List.mem_filter.1 hd).1)
  refine ⟨h1, fun q => (h2 q).trans ?_⟩
  rw [List.mem_filter, mem_cellsB h, dP_iff]
  exact ⟨fun h => h.2, fun h => ⟨h.snd, h⟩⟩
theorem partR_eq {W H : Nat} {l r : List Int} (h : Rg W H l) (c : Cl) (hr : Rg W H r) (hq : ∀ q, bt r q = true ↔ Way (InP l) c q) : r = partR W H l c := by
  obtain ⟨h1, h2⟩ := partR_facts h c
  exact hr.ext h1 fun q => (hq q).trans (h2 q).symm
/-- No cell before the k-th leads there. -/
def Un (l : List Int) (cs : List Cl) (k : Nat) (q : Cl) : Prop := ∀ j, j < k → ¬ Way (InP l) (cs.getD j (0, 0)) q
open Classical in
noncomputable def partsTo (W H : Nat) (l : List Int) : Nat → List (List Int)
  | 0 => []
  | k + 1 => if Un l (cellsB W H l) k ((cellsB W H l).getD k (0, 0)) then partsTo W H l k ++ [partR W H l ((cellsB W H l).getD k (0, 0))] else partsTo W H l k
theorem partsTo_yes {W H : Nat} {l : List Int} {k : Nat} (h : Un l (cellsB W H l) k ((cellsB W H l).getD k (0, 0))) : partsTo W H l (k + 1) = partsTo W H l k ++ [partR W H l ((cellsB W H l).getD k (0, 0))] := if_pos h
theorem partsTo_no {W H : Nat} {l : List Int} {k : Nat} (h : ¬ Un l (cellsB W H l) k ((cellsB W H l).getD k (0, 0))) : partsTo W H l (k + 1) = partsTo W H l k := if_neg h
theorem partsTo_le (W H : Nat) (l : List Int) : ∀ k, (partsTo W H l k).length ≤ k
  | 0 => Nat.le_refl _
  | k + 1 => by
    have := partsTo_le W H l k
    rw [partsTo]
    split
    · rw [List.length_append, List.length_singleton]; omega
    · omega
theorem partsTo_mem {W H : Nat} {l : List Int} : ∀ k, k ≤ (cellsB W H l).length → ∀ p ∈ partsTo W H l k, ∃ c ∈ cellsB W H l, p = partR W H l c
  | 0, _, p, hp => by cases hp
  | k + 1, hk, p, hp => by
    rw [partsTo] at hp
    split at hp
    · rw [List.mem_append, List.mem_singleton] at hp
      rcases hp with hp | hp
      · exact partsTo_mem k (by omega) p hp
      · exact ⟨_, getD_mem (by omega), hp⟩
    · exact partsTo_mem k (by omega) p hp
noncomputable def partsB (W H : Nat) (l : List Int) : List (List Int) := partsTo W H l (cellsB W H l).length
noncomputable def partsR (W : Int) (l : List Int) : List (List Int) := if isReg W l = true then partsB W.toNat l.length l else []
theorem partsR_yes {W H : Nat} {l : List Int} (h : Rg W H l) : partsR W l = partsB W H l := by
  unfold partsR
  rw [if_pos (isReg_of h), h.len]
  rfl
theorem partsR_no {W : Int} {l : List Int} (h : isReg W l = false) : partsR W l = [] := if_neg (by rw [h]; simp)
theorem partsB_le {W H : Nat} {l : List Int} (h : Rg W H l) : (partsB W H l).length ≤ 36 := Nat.le_trans (partsTo_le W H l _) (cellsB_len W H l h.w6 h.h6)
theorem partsB_rg {W H : Nat} {l : List Int} (h : Rg W H l) : ∀ p ∈ partsB W H l, Rg W H p := fun p hp => by
  obtain ⟨c, _, rfl⟩ := partsTo_mem _ (Nat.le_refl _) p hp
  exact (partR_facts h c).1
/-! What is left, in the program. -/
/-- Of rest, just what no cell before the k-th leads to. -/
def Lft (l : List Int) (cs : List Cl) (k : Nat) (rest : List Int) : Prop := ∀ q, bt rest q = true ↔ bt l q = true ∧ Un l cs k q
theorem Un.zero (l : List Int) (cs : List Cl) (q : Cl) : Un l cs 0 q := fun j hj => by omega
theorem Un.succ {l : List Int} {cs : List Cl} {k : Nat} {q : Cl} : Un l cs (k + 1) q ↔ Un l cs k q ∧ ¬ Way (InP l) (cs.getD k (0, 0)) q := by
  constructor
  · intro h; exact ⟨fun j hj => h j (by omega), h k (by omega)⟩
  · rintro ⟨h1, h2⟩ j hj
    by_cases e : j = k
    · subst e; exact h2
    · exact h1 j (by omega)
theorem Un.way {l : List Int} {cs : List Cl} {k : Nat} {p q : Cl} (h : Un l cs k p) (hw : Way (InP l) p q) : Un l cs k q := fun j hj h1 => h j hj (h1.trans hw.symm)
theorem Lft.start (l : List Int) (cs : List Cl) : Lft l cs 0 l := fun q => ⟨fun h => ⟨h, Un.zero l cs q⟩, fun h => h.1⟩
theorem Lft.un {l : List Int} {cs : List Cl} {k : Nat} {rest : List Int} (h : Lft l cs k rest) {c : Cl} (hc : bt l c = true) : bt rest c = true ↔ Un l cs k c := by
  rw [h c]
  exact ⟨fun h => h.2, fun h2 => ⟨hc, h2⟩⟩
theorem Lft.skip {l : List Int} {cs : List Cl} {k : Nat} {rest : List Int} (h : Lft l cs k rest) (hn : ¬ Un l cs k (cs.getD k (0, 0))) : Lft l cs (k + 1) rest := fun q => by
  rw [h q, Un.succ]
  constructor
  · rintro ⟨h1, h2⟩
    refine ⟨h1, h2, fun hw => hn ?_⟩
    exact h2.way hw.symm
  · rintro ⟨h1, h2, _⟩
    exact ⟨h1, h2⟩
theorem Lft.way {l : List Int} {cs : List Cl} {k : Nat} {rest : List Int} (h : Lft l cs k rest) {c : Cl} (hc : bt rest c = true) (q : Cl) : Way (InP rest) c q ↔ Way (InP l) c q := by
  constructor
  · exact Way.mono fun q hq => ((h q).1 hq).1
  · intro hw
    induction hw with
    | base _ => exact .base hc
    | step h1 hn ha ih => exact .step ih hn ((h _).2 ⟨ha, ((h _).1 ih.snd).2.way (.step (.base ((h _).1 ih.snd).1) hn ha)⟩)
theorem Lft.take {l : List Int} {cs : List Cl} {k : Nat} {rest rest' : List Int} (h : Lft l cs k rest) (hc : bt rest (cs.getD k (0, 0)) = true) (hm : Mv (InP rest) (InP rest') (cs.getD k (0, 0))) : Lft l cs (k + 1) rest' := fun q => by
  have h1 := hm.all q
  unfold InP at h1
  rw [h1, show Way (fun q => bt rest q = true) (cs.getD k (0, 0)) q ↔ Way (InP l) (cs.getD k (0, 0)) q from h.way hc q, h q, Un.succ, and_assoc]
theorem Lft.part {W H : Nat} {l : List Int} {cs : List Cl} {k : Nat} {rest rest' part : List Int} (hl : Rg W H l) (h : Lft l cs k rest) (hc : bt rest (cs.getD k (0, 0)) = true) (hm : Mv (InP rest) (InP rest') (cs.getD k (0, 0))) (hp : Rg W H part)
    (hq : ∀ q, bt part q = true ↔ bt rest q = true ∧ ¬ bt rest' q = true) : part = partR W H l (cs.getD k (0, 0)) := partR_eq hl _ hp fun q => by
  have h1 := hm.all q
  unfold InP at h1
  rw [hq q, h1, ← h.way hc q]
  constructor
  · rintro ⟨h2, h3⟩
    exact Classical.byContradiction fun h4 => h3 ⟨h2, h4⟩
  · intro h2
    exact ⟨h2.snd, fun h3 => h3.2 h2⟩
/-! What is left, in the model. -/
noncomputable def leftL (l : List Int) (cs : List Cl) (k : Nat) : List Cl := cs.filter fun q => dP (Un l cs k q)
theorem mem_leftL (l : List Int) (cs : List Cl) (k : Nat) (q : Cl) : q ∈ leftL l cs k ↔ q ∈ cs ∧ Un l cs k q := by unfold leftL; rw [List.mem_filter, dP_iff]
theorem leftL_zero (l : List Int) (cs : List Cl) : leftL l cs 0 = cs := by
  unfold leftL
  rw [List.filter_eq_self]
  intro q _
  exact (dP_iff _).2 (Un.zero l cs q)
theorem Bfs.full {l sn : List Cl} (h : Bfs l sn sn.length 0) (q : Cl) : q ∈ sn ↔ Rch l q := by
  constructor
  · exact h.reach q
  · intro hc
    induction hc with
    | base _ => exact h.first
    | step _ hb hn ih =>
      obtain ⟨j, hj, rfl⟩ := mem_getD ih
      exact h.closed j hj _ hb hn
theorem rch_way {L : List Cl} (h0 : 0 < L.length) (q : Cl) : Rch L q ↔ Way (fun q => q ∈ L) (L.getD 0 (0, 0)) q := by
  constructor
  · intro h
    induction h with
    | base h => exact .base (getD_mem h)
    | step _ hb hn ih => exact .step ih hn hb
  · intro h
    induction h with
    | base _ => exact .base h0
    | step _ hn hb ih => exact .step ih hb hn
theorem partsTo_over {W H : Nat} {l : List Int} {k : Nat} : ∀ m, (∀ i, k ≤ i → i < k + m → ¬ Un l (cellsB W H l) k ((cellsB W H l).getD i (0, 0))) → partsTo W H l (k + m) = partsTo W H l k ∧ ∀ q, bt l q = true → (Un l (cellsB W H l) (k + m) q ↔ Un l (cellsB W H l) k q)
  | 0, _ => ⟨rfl, fun _ _ => Iff.rfl⟩
  | m + 1, h => by
    obtain ⟨h1, h2⟩ := partsTo_over m (fun i hi h3 => h i hi (by omega))
    have hn := h (k + m) (by omega) (by omega)
    have hn2 : ¬ Un l (cellsB W H l) (k + m) ((cellsB W H l).getD (k + m) (0, 0)) := fun h5 => hn fun j hj => h5 j (by omega)
    refine ⟨(partsTo_no hn2).trans h1, fun q hq => ?_⟩
    rw [← Nat.add_assoc, Un.succ, h2 q hq]
    constructor
    · exact fun h => h.1
    · intro h5
      refine ⟨h5, fun hw => hn ?_⟩
      exact h5.way hw.symm
/-- One part more, in the model. -/
theorem left_step {W H : Nat} {l : List Int} (hl : Rg W H l) {k : Nat} (_hk : k ≤ (cellsB W H l).length) (h0 : 0 < (leftL l (cellsB W H l) k).length) : ∃ i, k ≤ i ∧ i < (cellsB W H l).length ∧ partsTo W H l (i + 1) = partsTo W H l k ++ [partR W H l ((leftL l (cellsB W H l) k).getD 0 (0, 0))] ∧
    (∀ q, Rch (leftL l (cellsB W H l) k) q ↔ Way (InP l) ((leftL l (cellsB W H l) k).getD 0 (0, 0)) q) ∧
    (∀ q, q ∈ leftL l (cellsB W H l) (i + 1) ↔ q ∈ leftL l (cellsB W H l) k ∧ ¬ Rch (leftL l (cellsB W H l) k) q) := by
  obtain ⟨c, t, hct⟩ : ∃ c t, leftL l (cellsB W H l) k = c :: t := by
    match hq : leftL l (cellsB W H l) k with
    | [] => rw [hq] at h0; simp at h0
    | c :: t => exact ⟨c, t, rfl⟩
  have h0' := h0
  have hcin : c ∈ leftL l (cellsB W H l) k := by rw [hct]; simp
  have hc0 := (mem_leftL l _ k c).1 hcin
  have hcb := (mem_cellsB hl c).1 hc0.1
  have hsplit := hct
  unfold leftL at hsplit
  rw [List.filter_eq_cons_iff] at hsplit
  obtain ⟨a, b, hab, hno, _, _⟩ := hsplit
  have hia : (cellsB W H l).getD a.length (0, 0) = c := by rw [hab]; simp [List.getD]
  have hlen : a.length < (cellsB W H l).length := by rw [hab]; simp
  have hbefore : ∀ i, i < a.length → ¬ Un l (cellsB W H l) k ((cellsB W H l).getD i (0, 0)) := fun i hi hu => by
    have e : (cellsB W H l).getD i (0, 0) = a.getD i (0, 0) := by
      rw [hab]
      simp [List.getD, List.getElem?_append_left hi]
    have hm := hno (a.getD i (0, 0)) (getD_mem hi)
    rw [e] at hu
    exact hm ((dP_iff _).2 hu)
  have hki : k ≤ a.length := by
    by_cases h9 : k ≤ a.length
    · exact h9
    · have := hc0.2 a.length (by omega)
      rw [hia] at this
      exact absurd (.base hcb) this
  obtain ⟨m, hm⟩ : ∃ m, a.length = k + m := ⟨a.length - k, by omega⟩
  obtain ⟨p1, p2⟩ := partsTo_over (W := W) (H := H) (l := l) (k := k) m (fun i _ hi => hbefore i (by omega))
  have hUc : Un l (cellsB W H l) (k + m) c := (p2 c hcb).2 hc0.2
  have hrch : ∀ q, Rch (leftL l (cellsB W H l) k) q ↔ Way (InP l) c q := fun q => by
    rw [rch_way h0, hct]
    have e : (c :: t).getD 0 ((0 : Int), (0 : Int)) = c := rfl
    rw [e]
    constructor
    · exact Way.mono fun q hq => (mem_cellsB hl q).1 ((mem_leftL l _ k q).1 (by rw [hct]; exact hq)).1
    · intro hw
      induction hw with
      | base _ => exact .base (by simp)
      | step h1 hn ha ih =>
        refine .step ih hn ?_
        rw [← hct, mem_leftL]
        exact ⟨(mem_cellsB hl _).2 ha, hc0.2.way (.step h1 hn ha)⟩
  have hhead : (leftL l (cellsB W H l) k).getD 0 ((0 : Int), (0 : Int)) = c := by rw [hct]; rfl
  refine ⟨a.length, hki, hlen, ?_, ?_, fun q => ?_⟩
  · rw [hhead, partsTo_yes (by rw [hia, hm]; exact hUc), hia, hm, p1]
  · rw [hhead]; exact hrch
  · rw [mem_leftL, mem_leftL, hrch, Un.succ, hia]
    constructor
    · rintro ⟨h1, h2, h3⟩
      exact ⟨⟨h1, (p2 q ((mem_cellsB hl q).1 h1)).1 (hm ▸ h2)⟩, h3⟩
    · rintro ⟨⟨h1, h2⟩, h3⟩
      exact ⟨h1, by rw [hm]; exact (p2 q ((mem_cellsB hl q).1 h1)).2 h2, h3⟩
theorem left_done {W H : Nat} {l : List Int} {k : Nat} (_hk : k ≤ (cellsB W H l).length) (h0 : leftL l (cellsB W H l) k = []) : partsTo W H l k = partsB W H l := by
  have hall : ∀ i, k ≤ i → i < k + ((cellsB W H l).length - k) → ¬ Un l (cellsB W H l) k ((cellsB W H l).getD i (0, 0)) := fun i h1 h2 hu => by
    have : (cellsB W H l).getD i (0, 0) ∈ leftL l (cellsB W H l) k := (mem_leftL l _ k _).2 ⟨getD_mem (by omega), hu⟩
    rw [h0] at this
    cases this
  have := (partsTo_over (W := W) (H := H) (l := l) (k := k) ((cellsB W H l).length - k) hall).1
  unfold partsB
  rw [← this]
  congr 1
  omega
/-- What is kept of a list, in order, is told by what it has. -/
theorem filter_left {W H : Nat} {l : List Int} {k i : Nat} {sn : List Cl} (h : ∀ q, q ∈ leftL l (cellsB W H l) (i + 1) ↔ q ∈ leftL l (cellsB W H l) k ∧ q ∉ sn) : (leftL l (cellsB W H l) k).filter (fun q => !hasC sn q.1 q.2) = leftL l (cellsB W H l) (i + 1) := by
  have hs : ∀ k, Srt (leftL l (cellsB W H l) k) := fun k => List.Pairwise.sublist List.filter_sublist (cellsB_srt W H l)
  refine srt_unique (List.Pairwise.sublist List.filter_sublist (hs k)) (hs (i + 1)) fun q => ?_
  rw [List.mem_filter, h q]
  have := hasC_iff sn q
  simp only [Bool.not_eq_true', ← Bool.not_eq_true, this]
end

section
open Go.RowKit

/-! ### Appending numbers -/
set_option maxRecDepth 100000 in
theorem append_intsR (base g n cap B : Nat) (xs : List Int) (a : Option Addr) (m c : Nat) (ys : List Int) (w : World)
    (hown : w.ownsRow base 3 1 (.slice (some ⟨g, 0, none⟩) n cap) n (iv xs)) (hs : IntsAt B w a m ys) (h63 : n + m ≤ 8388608) (hbase : base ≤ w.heap.size) (ty : TypeId) :
    ∃ g' cap' w', (Builtin.append_ #[24, 24] ty #[.slice (some ⟨g, 0, none⟩) n cap, .slice a m c]).run Tryz.prog w = .ok (.slice (some ⟨g', 0, none⟩) (n + m) cap') w' ∧
      w'.ownsRow base 3 1 (.slice (some ⟨g', 0, none⟩) (n + m) cap') (n + m) (iv (xs ++ ys)) ∧ w.grownBy w' (some g) ∧ base ≤ g' := by
  obtain ⟨i, hi, hz0, hz1, hz2⟩ := info_parts info_int
  have hcase : (a = none ∧ m = 0) ∨ ∃ ad, a = some ad ∧ ∀ j u, (iv ys)[j]? = some u → w.cell? (ad.add j) = some u := by
    cases a with
    | none => exact .inl ⟨rfl, by
        by_cases h0 : 0 < m
        · obtain ⟨_, _, e, _⟩ := hs.2.2 h0
          cases e
        · omega⟩
    | some ad =>
      refine .inr ⟨ad, rfl, fun j u hj => ?_⟩
      have hjl : j < m := by
        have := (List.getElem?_eq_some_iff.1 hj).1
        rw [iv_length, hs.1] at this
        exact this
      obtain ⟨b, off, e, _, hc⟩ := hs.2.2 (by omega)
      injection e with e
      subst e
      rw [add_at, hc j hjl, ← hj, iv_get _ _ (by rw [hs.1]; exact hjl)]
  rcases hcase with ⟨rfl, rfl⟩ | ⟨ad, rfl, hsrc⟩
  · have hy : ys = [] := List.eq_nil_of_length_eq_zero hs.1
    subst hy
    obtain ⟨g1, cap1, cur, e, hb, _, hnc, _⟩ := hown.2.resolve_left (by rintro ⟨e, _⟩; cases e)
    injection e with e1 e2 e3
    injection e1 with e1
    injection e1 with e1
    subst e1 e3
    refine ⟨g, cap, w, ?_, by simpa using hown, World.grownBy.refl _ _, hb⟩
    simp [Builtin.append_, run_underlying Tryz.underlying24, sizeOf, typeInfo, hi, Builtin.lenOf, Builtin.firstCells, hnc, storeCells]
  · obtain ⟨v', w', hr, h2, h3, h4, _⟩ := run_append_own_at (P := Tryz.prog) w base 24 ty 3 i _ 1 8 Tryz.underlying24 hi hz0 hz1 hz2 rfl (by omega) _ n (iv xs) hown ad m c (iv ys) (by rw [iv_length, hs.1]; omega) hsrc (iv_one _) (by unfold maxLen; omega) (by omega) hbase
    rw [show iv xs ++ iv ys = iv (xs ++ ys) from by simp [iv]] at h2
    rcases h2.2 with ⟨rfl, _⟩ | ⟨g', cap', cur, rfl, hb, hg, _⟩
    · exact absurd (h4.1 rfl).1 (by intro e; cases e)
    · exact ⟨g', cap', w', hr, h2, h3, hb⟩
theorem wp_intsR {o : Oper} {a : Act} {w : World} {K : Act → World → Prop} {Q : Exit → Act → World → Prop} (s x : Operand)
    (ho : o.op = .call { callee := .builtin .append, args := #[s, x], argTypes := #[24, 24] })
    (base g n cap B : Nat) (xs : List Int) (ad : Option Addr) (m c : Nat) (ys : List Int) (hs : a.eval s = .slice (some ⟨g, 0, none⟩) n cap) (hx : a.eval x = .slice ad m c)
    (hown : w.ownsRow base 3 1 (.slice (some ⟨g, 0, none⟩) n cap) n (iv xs)) (hsrc : IntsAt B w ad m ys) (h63 : n + m ≤ 8388608) (hbase : base ≤ w.heap.size)
    (h : ∀ g' cap' w', w'.ownsRow base 3 1 (.slice (some ⟨g', 0, none⟩) (n + m) cap') (n + m) (iv (xs ++ ys)) → w.grownBy w' (some g) → base ≤ g' → K (a.put o.dst (.slice (some ⟨g', 0, none⟩) (n + m) cap')) w') : o.wp Tryz.prog a w K Q := by
  obtain ⟨g', cap', w', hr, h2, h3, h4⟩ := append_intsR base g n cap B xs ad m c ys w hown hsrc h63 hbase o.type
  unfold Oper.wp execOp
  simp only [ho, resolve, invoke, builtin, Sem.run_bind, Sem.run_pure, Result.andThen_ok, List.map_toArray, List.map_cons, List.map_nil, hs, hx, hr]
  exact h g' cap' w' h2 h3 h4
theorem step_intsR {ops : Array Oper} {o : Oper} {a : Act} {w : World} {K : Act → World → Prop} {Q : Exit → Act → World → Prop} {E : Prop} (hgd : o.guard = none) (s x : Operand)
    (ho : o.op = .call { callee := .builtin .append, args := #[s, x], argTypes := #[24, 24] })
    (base g n cap B : Nat) (xs : List Int) (ad : Option Addr) (m c : Nat) (ys : List Int) (hs : a.eval s = .slice (some ⟨g, 0, none⟩) n cap) (hx : a.eval x = .slice ad m c)
    (hown : w.ownsRow base 3 1 (.slice (some ⟨g, 0, none⟩) n cap) n (iv xs)) (hsrc : IntsAt B w ad m ys) (h63 : n + m ≤ 8388608) (hbase : base ≤ w.heap.size)
    (h : ∀ g' cap' w', w'.ownsRow base 3 1 (.slice (some ⟨g', 0, none⟩) (n + m) cap') (n + m) (iv (xs ++ ys)) → w.grownBy w' (some g) → base ≤ g' → K (a.put o.dst (.slice (some ⟨g', 0, none⟩) (n + m) cap')) w') :
    if Region.wanted o (yielded ops a.tmps) = true then Oper.wp Tryz.prog o a w K Q else E := by
  have hw : Region.wanted o (yielded ops a.tmps) = true := by simp [Region.wanted, hgd]
  rw [if_pos hw]
  exact wp_intsR s x ho base g n cap B xs ad m c ys hs hx hown hsrc h63 hbase h

/-! ### One cell set, one taken away -/
def shV (x : Nat) : Int := wrap64 ((2 : Int) ^ min x 64)
theorem shV_in {x : Nat} (h : x ≤ 41) : shV x = ((2 ^ x : Nat) : Int) := by
  unfold shV
  rw [show min x 64 = x by omega, pw64 x h]
  simp
theorem or_val {n x : Nat} (hn : n < 64) (hx : x < 6) : bits .or .i64 (n : Int) (shV x) = ((n ||| 2 ^ x : Nat) : Int) := by
  rw [shV_in (by omega)]
  have : 2 ^ x ≤ 2 ^ 6 := Nat.pow_le_pow_right (by omega) (by omega)
  exact i64_or_nat _ _ (by omega) (by omega)
theorem andNot_all : ∀ n, n < 64 → ∀ x, x < 6 → bits .andNot .i64 ((n : Nat) : Int) ((2 ^ x : Nat) : Int) = ((clrN n x : Nat) : Int) := by decide +kernel
theorem andNot_val {n x : Nat} (hn : n < 64) (hx : x < 6) : bits .andNot .i64 (n : Int) (shV x) = ((clrN n x : Nat) : Int) := by
  rw [shV_in (by omega)]
  exact andNot_all n hn x hx

theorem own_lit_i (w : World) (B g : Nat) (h : B ≤ w.heap.size) (hg : w.heap.size = g) : (w.alloc (.cells #[] 3)).ownsRow B 3 1 (.slice (some ⟨g, 0, none⟩) 0 0) 0 (iv []) := by
  subst hg
  simpa [iv] using World.ownsRow_lit (base := B) (e := 3) (size := 1) w #[] 0 h (by simp [maxLen]) rfl

set_option maxHeartbeats 1000000 in
set_option maxRecDepth 100000 in
theorem sCopy (B n cap : Nat) (a : Option Addr) (W : Int) (l : List Int) (w : World) (hn : n ≤ 1048576) (hc : IntsAt B w a n l) (hB : B ≤ w.heap.size) :
    Calls Tryz.prog 155 #[.agg #[.int .i64 W, .slice a n cap]] w fun e w' => ∃ g cap', e = .returned (.agg #[.int .i64 W, .slice (some ⟨g, 0, none⟩) n cap']) ∧ w'.ownsRow w.heap.size 3 1 (.slice (some ⟨g, 0, none⟩) n cap') n (iv l) ∧ Below w.heap.size w w' := by
  have H := Lib.hid hc
  clear hc
  go_enter Tryz.func155, Tryz.ntmps155
  go_wp2_with fail
  have hbox := (RgAt.new (w := w) W (.slice a n cap) rfl).alloc (.cells #[.int .i64 0, .slice none 0 0] 26)
  have hres := RgAt.new (w := w.alloc (.cells #[.int .i64 W, .slice a n cap] 26)) (N := w.heap.size + 1) 0 (.slice none 0 0) (by simp)
  have hb := ((Below.refl w.heap.size w).alloc (Nat.le_refl _) (.cells #[.int .i64 W, .slice a n cap] 26)).alloc (by simp) (.cells #[.int .i64 0, .slice none 0 0] 26)
  have hsz : ((w.alloc (.cells #[.int .i64 W, .slice a n cap] 26)).alloc (.cells #[.int .i64 0, .slice none 0 0] 26)).heap.size = w.heap.size + 1 + 1 := by simp
  generalize ((w.alloc (.cells #[.int .i64 W, .slice a n cap] 26)).alloc (.cells #[.int .i64 0, .slice none 0 0] 26)) = W1 at *
  have HAT := Lib.hid (H.out.on (hb.mono hB))
  have HB1 := Lib.hid hb
  have c0 := hbox.c0
  have c1 := hbox.c1
  clear hb
  go_region_held3 (fun w' => w'.cell? ⟨w.heap.size, 0, none⟩ = some (.int .i64 W) ∧ w'.cell? ⟨w.heap.size, 1, none⟩ = some (.slice a n cap))
    (first
      | exact ⟨c0, c1⟩
      | exact ⟨hboxN.c0, hboxN.c1⟩
      | exact ⟨(RgAt.far (g' := w.heap.size + 1) (RgAt.far (g' := w.heap.size + 1) hboxN (by omega)) (by omega)).c0, (RgAt.far (g' := w.heap.size + 1) (RgAt.far (g' := w.heap.size + 1) hboxN (by omega)) (by omega)).c1⟩
      | exact ⟨(RgAt.alloc (w := W1.drew) hbox _).c0, (RgAt.alloc (w := W1.drew) hbox _).c1⟩)
    (first
      | (refine step_intsR rfl _ _ rfl (w.heap.size + 1 + 1) (w.heap.size + 1 + 1) 0 0 B [] a n cap l rfl rfl ?a1 ?a2 ?a3 ?a4 ?_
         (case a1 => exact own_lit_i W1 _ _ (by omega) hsz)
         (case a2 => exact HAT.out.on (((Below.refl B W1).alloc (by omega) _).drew))
         (case a3 => omega)
         (case a4 => simp; omega)
         intro g' cap' w' hownN hgrN hgbN
         have hboxN := RgAt.by (w := (W1.alloc (.cells #[] 3)).drew) (r := some (w.heap.size + 1 + 1)) (RgAt.alloc hbox (.cells #[] 3)) hgrN (by intro e; injection e with e; omega)
         have hresN := RgAt.by (w := (W1.alloc (.cells #[] 3)).drew) (r := some (w.heap.size + 1 + 1)) (RgAt.alloc hres (.cells #[] 3)) hgrN (by intro e; injection e with e; omega)
         have r0 := hresN.c0
         have r1 := hresN.c1
         have r2 := hresN.f 0
         have r3 := hresN.f 1))
  all_goals
    have R9 := hresN.set2 W (.slice (some ⟨g', 0, none⟩) n cap')
    have e0 := R9.c0
    have e1 := R9.c1
    rw [Nat.zero_add, List.nil_append] at hownN
    have hbN := (((HB1.out.alloc (by omega) (.cells #[] 3)).drew).grown hgrN (by show _ ≤ (W1.alloc (.cells #[] 3)).heap.size; simp; omega) (fun k hk => by injection hk with hk; omega))
    have HO9 := Lib.hid (own_below (own_far (b := w.heap.size + 1) (o := 1) (u := .slice (some ⟨g', 0, none⟩) n cap') (own_far (b := w.heap.size + 1) (o := 0) (u := .int .i64 W) hownN (by omega)) (by omega)) (show w.heap.size ≤ w.heap.size + 1 + 1 by omega))
    have HB9 := Lib.hid ((hbN.setCell (p := ⟨w.heap.size + 1, 0, none⟩) (by show w.heap.size ≤ w.heap.size + 1; omega) (.int .i64 W)).setCell (p := ⟨w.heap.size + 1, 1, none⟩) (by show w.heap.size ≤ w.heap.size + 1; omega) (.slice (some ⟨g', 0, none⟩) n cap'))
    generalize ((w'.setCell ⟨w.heap.size + 1, 0, none⟩ (.int .i64 W)).setCell ⟨w.heap.size + 1, 1, none⟩ (.slice (some ⟨g', 0, none⟩) n cap')) = w9 at *
    simp only [Exit.then]
    go_wp2
    exact bodyPost_ret (v := .agg #[.int .i64 W, .slice (some ⟨g', 0, none⟩) n cap']) (by simp [results, Tryz.results155, go_sem, e0, e1]) rfl ⟨_, _, rfl, HO9.out, HB9.out⟩

theorem run_make_i (w : World) (base n : Nat) (hn : n ≤ 1048577) (hb : base ≤ w.heap.size) :
    ∃ w', (Instr.makeSlice 24 (.int .i64 n) (.int .i64 n)).run Tryz.prog w = .ok (.slice (some ⟨w.heap.size, 0, none⟩) n n) w' ∧ w'.ownsRow base 3 1 (.slice (some ⟨w.heap.size, 0, none⟩) n n) n (iv (zerosR n)) ∧ w.grownBy w' none := by
  obtain ⟨i0, hi, hz0, hz1, hz2⟩ := info_parts info_int
  obtain ⟨w', hrun, r1, r2⟩ := run_make_full (P := Tryz.prog) w base 24 3 i0 (.int .i64 0) 1 Tryz.underlying24 hi hz0 hz1 .i64 .i64 n (by rw [hz2]; omega) (by unfold maxLen; omega) hb
  have e : (madeCells (Value.int IntKind.i64 0).cells (n * 1)).toList = iv (zerosR n) := by rw [Nat.mul_one]; exact made_ints n
  rw [e] at r1
  exact ⟨w', hrun, r1, r2⟩


theorem RgAt.row {w : World} {g k : Nat} {W : Int} {v : Value} {cs : Array Value} (h : RgAt w k W v) (hne : k ≠ g) : RgAt (w.setRow g cs) k W v := (setRow_other w g k cs hne).trans h
theorem own_row {w : World} {g base n : Nat} {l : List Int} {cur : Array Value} (hl : l.length = n) (hg : w.heap[g]? = some (.cells cur 3 (0, 0))) (hb : base ≤ g) (hn : n ≤ maxLen) :
    (w.setRow g (iv l).toArray).ownsRow base 3 1 (.slice (some ⟨g, 0, none⟩) n n) n (iv l) :=
  ⟨by rw [iv_length, hl, Nat.mul_one], .inr ⟨g, n, (iv l).toArray, rfl, hb, setRow_heap w g cur _ 3 _ hg, Nat.le_refl _, hn, by simp [iv_length, hl], by rw [Nat.mul_one]; exact List.take_of_length_le (by simp [iv_length, hl])⟩⟩
end

section
open Go.RowKit

def cN (N : Nat) (l : List Int) (y x : Nat) : List Cl := (gTo N y ++ gRow (y : Int) x).filter (bt l)
theorem cN_zero (N : Nat) (l : List Int) : cN N l 0 0 = [] := rfl
theorem cN_yes {N : Nat} {l : List Int} {y x : Nat} (h : bt l ((x : Int), (y : Int)) = true) : cN N l y (x + 1) = cN N l y x ++ [((x : Int), (y : Int))] := by
  unfold cN
  rw [gRow, ← List.append_assoc, List.filter_append]
  simp [h]
theorem cN_no {N : Nat} {l : List Int} {y x : Nat} (h : bt l ((x : Int), (y : Int)) = false) : cN N l y (x + 1) = cN N l y x := by
  unfold cN
  rw [gRow, ← List.append_assoc, List.filter_append]
  simp [h]
theorem cN_row (N : Nat) (l : List Int) (y : Nat) : cN N l y N = cN N l (y + 1) 0 := by
  unfold cN
  rw [gTo]
  simp [gRow]
theorem cN_all (N n : Nat) (l : List Int) : cN N l n 0 = cellsB N n l := by
  unfold cN cellsB
  simp [gRow]
theorem cN_len (N : Nat) (l : List Int) (y x : Nat) (hN : N ≤ 6) (hy : y ≤ 6) (hx : x ≤ 6) : (cN N l y x).length ≤ 42 := by
  have h1 := List.length_filter_le (bt l) (gTo N y ++ gRow (y : Int) x)
  rw [List.length_append, gTo_len, gRow_len] at h1
  have := Nat.mul_le_mul hN hy
  unfold cN
  omega
theorem own_lit0 (w : World) (B : Nat) (h : B ≤ w.heap.size) : (w.alloc (.cells #[] 86)).ownsRow B 86 2 (.slice (some ⟨w.heap.size, 0, none⟩) 0 0) 0 (cvs []) := by
  simpa [cvs] using World.ownsRow_lit (base := B) (e := 86) (size := 2) w #[] 0 h (by simp [maxLen]) rfl
end

end Go.Proofs.YtkjlmgkjcmebbaaGreatDoor
