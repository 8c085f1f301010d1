/-
  Enumeration: what comes of taking one cell away; plain facts.
  Shapes turned: the order in which one moves and sorts does not matter; plain facts.
  Symmetries, congruence and mirror images: where the program's words and the model's are one; plain facts.
  Motions as a group of eight, orientations times symmetries, congruence: plain facts.
-/
import Derived.Test.YtkcclhnligajeaaGreatDoorVad
namespace Go.Proofs.YtkcclhnligajeaaGreatDoor

section
def delC (l : List Cl) (i : Nat) : List Cl := l.take i ++ l.drop (i + 1)
theorem delC_len (l : List Cl) (i : Nat) (h : i < l.length) : (delC l i).length = l.length - 1 := by
  unfold delC
  simp
  omega
/-- The list of a shape's parents: in order, each once, all of them. -/
def IsPar (l : List Cl) (L : List (List Cl)) : Prop := SrtG ltS L ∧ ∀ x, x ∈ L ↔ isShape l = true ∧ ∃ i, i < l.length ∧ Conn (delC l i) ∧ x = cornerC (delC l i)
/-- .. as far as the first k places. -/
def ParTo (l : List Cl) (k : Nat) (L : List (List Cl)) : Prop := SrtG ltS L ∧ ∀ x, x ∈ L ↔ ∃ i, i < k ∧ Conn (delC l i) ∧ x = cornerC (delC l i)
theorem parTo_zero (l : List Cl) : ParTo l 0 [] := ⟨List.Pairwise.nil, fun x => ⟨fun h => (by cases h), fun ⟨i, h, _⟩ => absurd h (Nat.not_lt_zero i)⟩⟩
theorem parTo_skip {l : List Cl} {k : Nat} {L : List (List Cl)} (h : ParTo l k L) (hc : ¬ Conn (delC l k)) : ParTo l (k + 1) L :=
  ⟨h.1, fun x => (h.2 x).trans ⟨fun ⟨i, hi, h2⟩ => ⟨i, by omega, h2⟩, fun ⟨i, hi, h2, h3⟩ => ⟨i, by
    by_cases e : i = k
    · exact absurd (e ▸ h2) hc
    · omega, h2, h3⟩⟩⟩
theorem parTo_put {l : List Cl} {k : Nat} {L : List (List Cl)} (h : ParTo l k L) (hc : Conn (delC l k)) : ParTo l (k + 1) (insG ltS [] L (cornerC (delC l k))) :=
  ⟨insG_srt ordS [] h.1 _, fun x => by
    rw [insG_mem, h.2 x]
    constructor
    · rintro (⟨i, hi, h2⟩ | rfl)
      · exact ⟨i, by omega, h2⟩
      · exact ⟨k, by omega, hc, rfl⟩
    · rintro ⟨i, hi, h2, h3⟩
      by_cases e : i = k
      · subst e; exact .inr h3
      · exact .inl ⟨i, by omega, h2, h3⟩⟩
theorem parTo_all {l : List Cl} {L : List (List Cl)} (hs : isShape l = true) (h : ParTo l l.length L) : IsPar l L := ⟨h.1, fun x => (h.2 x).trans ⟨fun h2 => ⟨hs, h2⟩, fun h2 => h2.2⟩⟩
theorem isPar_none {l : List Cl} (hs : isShape l = false) : IsPar l [] := ⟨List.Pairwise.nil, fun x => ⟨fun h => (by cases h), fun ⟨h, _⟩ => by rw [hs] at h; cases h⟩⟩
theorem isPar_unique {l : List Cl} {L M : List (List Cl)} (h : IsPar l L) (k : IsPar l M) : L = M := srtG_unique ordS h.1 k.1 fun x => (h.2 x).trans (k.2 x).symm
theorem isPar_ex (l : List Cl) : ∃ L, IsPar l L := by
  cases hs : isShape l with
  | false => exact ⟨[], isPar_none hs⟩
  | true =>
    have key : ∀ k, ∃ L, ParTo l k L := by
      intro k
      induction k with
      | zero => exact ⟨[], parTo_zero l⟩
      | succ k ih =>
        obtain ⟨L, hL⟩ := ih
        rcases Classical.em (Conn (delC l k)) with hc | hc
        · exact ⟨_, parTo_put hL hc⟩
        · exact ⟨L, parTo_skip hL hc⟩
    obtain ⟨L, hL⟩ := key l.length
    exact ⟨L, parTo_all hs hL⟩
theorem parTo_le {l : List Cl} : ∀ {k : Nat} {L : List (List Cl)}, ParTo l k L → L.length ≤ k
  | 0, L, h => by
    cases L with
    | nil => simp
    | cons x r => obtain ⟨i, hi, _⟩ := (h.2 x).1 (by simp); omega
  | k + 1, L, h => by
    have : ∃ M, ParTo l k M := by
      clear h
      induction k with
      | zero => exact ⟨[], parTo_zero l⟩
      | succ k ih =>
        obtain ⟨M, hM⟩ := ih
        rcases Classical.em (Conn (delC l k)) with hc | hc
        · exact ⟨_, parTo_put hM hc⟩
        · exact ⟨M, parTo_skip hM hc⟩
    obtain ⟨M, hM⟩ := this
    have hM2 := parTo_le hM
    rcases Classical.em (Conn (delC l k)) with hc | hc
    · have e : L = insG ltS [] M (cornerC (delC l k)) := srtG_unique ordS h.1 (parTo_put hM hc).1 fun x => (h.2 x).trans ((parTo_put hM hc).2 x).symm
      have := insG_le ltS [] M (cornerC (delC l k))
      rw [e]
      omega
    · have e : L = M := srtG_unique ordS h.1 hM.1 fun x => (h.2 x).trans ((parTo_skip hM hc).2 x).symm
      rw [e]
      omega
theorem isPar_shape {l : List Cl} {L : List (List Cl)} (h : IsPar l L) {x : List Cl} (hx : x ∈ L) : isShape x = true := by
  obtain ⟨_, i, _, hc, rfl⟩ := (h.2 x).1 hx
  exact isShape_corner hc.1
theorem isPar_le {l : List Cl} {L : List (List Cl)} (h : IsPar l L) : L.length ≤ 8 := by
  cases hs : isShape l with
  | false =>
    have := isPar_unique h (isPar_none hs)
    rw [this]
    simp
  | true =>
    have h8 := ((isShape_iff l).1 hs).1.2
    have : ParTo l l.length L := ⟨h.1, fun x => (h.2 x).trans ⟨fun h2 => h2.2, fun h2 => ⟨hs, h2⟩⟩⟩
    have := parTo_le this
    omega
end

section
theorem sortU_move (x y : Int) (l : List Cl) : sortU (moveC x y l) = moveC x y (sortU l) := by
  refine (sortU_unique (srt_move (sortU_srt l)) fun c => ?_).symm
  unfold moveC
  simp only [List.mem_map, sortU_mem]
theorem minTo_same (f : Cl → Int) {A C : List Cl} (hA : 0 < A.length) (h : ∀ c, c ∈ A ↔ c ∈ C) : minTo f A A.length = minTo f C C.length := by
  have hC : 0 < C.length := List.length_pos_of_mem ((h _).1 (getD_mem hA))
  refine minTo_eq hA (fun j hj => ?_) ?_
  · obtain ⟨i, hi, e⟩ := mem_getD ((h _).1 (getD_mem hj))
    rw [← e]
    exact minTo_le f C C.length i hi
  · obtain ⟨i, hi, e⟩ := minTo_mem f C C.length hC
    obtain ⟨j, hj, e2⟩ := mem_getD ((h _).2 (getD_mem hi))
    exact ⟨j, hj, by rw [e2, e]⟩
theorem sortU_pos {l : List Cl} (h : 0 < l.length) : 0 < (sortU l).length := List.length_pos_of_mem ((sortU_mem l _).2 (getD_mem h))
theorem cornerC_sortU {l : List Cl} (h : 0 < l.length) : cornerC (sortU l) = sortU (cornerC l) := by
  have e1 : minX (sortU l) = minX l := minTo_same _ (sortU_pos h) (sortU_mem l)
  have e2 : minY (sortU l) = minY l := minTo_same _ (sortU_pos h) (sortU_mem l)
  rw [cornerC_move, cornerC_move, e1, e2, sortU_move]
/-- Turned, moved to the corner, put in order: the program's way. -/
theorem turnC_prog (m : Nat) {l : List Cl} (h : 0 < l.length) : turnC m l = sortU (cornerC (l.map (apM m))) := cornerC_sortU (by simpa using h)
theorem fill_map (f : Cl → Cl) (l : List Cl) (k n : Nat) (h : k < n) (hl : l.length = n) : ((l.take k).map f ++ List.replicate (n - k) ((0 : Int), (0 : Int))).set k (f (l.getD k (0, 0))) = (l.take (k + 1)).map f ++ List.replicate (n - (k + 1)) (0, 0) := by
  have e : n - k = (n - (k + 1)) + 1 := by omega
  have el : ((l.take k).map f).length = k := by simp; omega
  rw [e, List.replicate_succ, List.set_append_right _ _ (by omega), el, Nat.sub_self, List.set_cons_zero, take_snoc l k (by omega), List.map_append, List.append_assoc]
  rfl
theorem over_map (f : Cl → Cl) (l : List Cl) (k : Nat) (h : k < l.length) : ((l.take k).map f ++ l.drop k).set k (f (l.getD k (0, 0))) = (l.take (k + 1)).map f ++ l.drop (k + 1) := by
  have el : ((l.take k).map f).length = k := by simp; omega
  have ed : l.drop k = l.getD k (0, 0) :: l.drop (k + 1) := by rw [List.drop_eq_getElem_cons h]; simp [List.getD, h]
  rw [ed, List.set_append_right _ _ (by omega), el, Nat.sub_self, List.set_cons_zero, take_snoc l k h, List.map_append, List.append_assoc]
  rfl
theorem over_get (f : Cl → Cl) (l : List Cl) (k : Nat) (h : k < l.length) : ((l.take k).map f ++ l.drop k).getD k (0, 0) = l.getD k (0, 0) := by
  have el : ((l.take k).map f).length = k := by simp; omega
  simp only [List.getD_eq_getElem?_getD]
  rw [List.getElem?_append_right (by omega), el, Nat.sub_self, List.getElem?_drop, Nat.add_zero]
end

section
theorem apM_zero (c : Cl) : apM 0 c = c := by simp [apM, rotN, flipC]
theorem srt_sortU {l : List Cl} (h : Srt l) : sortU l = l := (sortU_unique h fun _ => Iff.rfl).symm
theorem turnC_zero {l : List Cl} (h : isShape l = true) : turnC 0 l = cornerC l := by
  have hs := ((isShape_iff l).1 h).2.2
  unfold turnC
  rw [show l.map (apM 0) = l by rw [List.map_congr_left (g := id) (fun c _ => apM_zero c)]; simp, srt_sortU hs]
theorem symS_ne {l : List Cl} (h : isShape l = true) : symS l ≠ [] := by
  intro e
  have : (0 : Int) ∈ symS l := by
    unfold symS symTo
    rw [if_pos h, List.mem_map]
    exact ⟨0, by rw [List.mem_filter]; exact ⟨by simp, by simpa using turnC_zero h⟩, rfl⟩
  rw [e] at this
  cases this
theorem turnC_pos (m : Nat) {l : List Cl} (h : 0 < l.length) : 0 < (turnC m l).length := by
  have : 0 < (sortU (l.map (apM m))).length := sortU_pos (by simpa using h)
  unfold turnC cornerC
  simpa using this
theorem turnsC_len (l : List Cl) (k : Nat) : (turnsC l k).length = k := by simp [turnsC]
theorem turnsC_get (l : List Cl) {k n : Nat} (h : k < n) : (turnsC l n)[k]? = some (turnC k l) := by simp [turnsC, h]
theorem orient_pos {l : List Cl} (h : isShape l = true) : 0 < (orientS l).length := by
  unfold orientS
  rw [if_pos h]
  refine List.length_pos_of_mem (a := turnC 0 l) ((sortG_mem ordS [] _ _).2 ?_)
  exact List.mem_of_getElem? (turnsC_get l (by omega))
theorem canonS_pos {l : List Cl} (h : isShape l = true) : 0 < (canonS l).length := by
  have h0 := orient_pos h
  have hl := ((isShape_iff l).1 h).1.1
  have hm : (orientS l).getD 0 [] ∈ orientS l := by simp [List.getD, h0]
  have hm2 : canonS l ∈ orientS l := hm
  unfold orientS at hm2
  rw [if_pos h, sortG_mem ordS] at hm2
  obtain ⟨m, _, e⟩ := List.mem_map.1 hm2
  rw [← e]
  exact turnC_pos m (by omega)
theorem canonS_no {l : List Cl} (h : isShape l = false) : canonS l = [] := by
  have : orientS l = [] := if_neg (by rw [h]; simp)
  unfold canonS
  rw [this]
  rfl
theorem congS_prog (a b : List Cl) : congS a b = (isShape a && decide (canonS a = canonS b)) := by
  unfold congS
  cases ha : isShape a with
  | false => rfl
  | true =>
    cases hb : isShape b with
    | true => simp
    | false =>
      have : canonS a ≠ canonS b := by
        intro e
        have := canonS_pos ha
        rw [e, canonS_no hb] at this
        simp at this
      simp [this]
theorem chirS_prog (l : List Cl) : chirS l = (isShape l && !(symS l).any fun m => decide (4 ≤ m)) := by
  unfold chirS
  have e : ((symS l).all fun m => decide (m < 4)) = !(symS l).any fun m => decide (4 ≤ m) := by
    rw [List.not_any_eq_all_not]
    congr 1
    funext m
    by_cases h : m < 4
    · simp [h]
    · simp [h]; omega
  rw [e]
  cases h : isShape l with
  | true => simp [symS_ne h]
  | false =>
    have : symS l = [] := if_neg (by rw [h]; simp)
    simp [this]
end

section
/-! ### Motions are linear -/
def linC (c u v : Cl) : Cl := (c.1 * u.1 + c.2 * v.1, c.1 * u.2 + c.2 * v.2)
theorem linC_id (c : Cl) : linC c (1, 0) (0, 1) = c := by simp [linC]
theorem rotN_lin (c u v : Cl) : ∀ n, rotN n (linC c u v) = linC c (rotN n u) (rotN n v)
  | 0 => rfl
  | n + 1 => by
    unfold rotN
    rw [rotN_lin c u v n]
    simp only [rotC, linC, Int.mul_neg, Int.neg_add]
theorem flipC_lin (m : Nat) (c u v : Cl) : flipC m (linC c u v) = linC c (flipC m u) (flipC m v) := by
  unfold flipC
  split
  · simp only [linC, Int.mul_neg, Int.neg_add]
  · rfl
theorem apM_lin (m : Nat) (c u v : Cl) : apM m (linC c u v) = linC c (apM m u) (apM m v) := by
  unfold apM
  rw [flipC_lin, rotN_lin]
theorem apM_of_same {a b n : Nat} (h : sameM a b n = true) (c : Cl) : apM b (apM a c) = apM n c := by
  unfold sameM at h
  rw [Bool.and_eq_true, decide_eq_true_eq, decide_eq_true_eq] at h
  rw [show c = linC c (1, 0) (0, 1) from (linC_id c).symm, apM_lin a, apM_lin b, apM_lin n, h.1, h.2]
def addC (c v : Cl) : Cl := (c.1 + v.1, c.2 + v.2)
theorem rotN_add (c v : Cl) : ∀ n, rotN n (addC c v) = addC (rotN n c) (rotN n v)
  | 0 => rfl
  | n + 1 => by
    unfold rotN
    rw [rotN_add c v n]
    simp only [rotC, addC, Int.neg_add]
theorem apM_add (m : Nat) (c v : Cl) : apM m (addC c v) = addC (apM m c) (apM m v) := by
  unfold apM
  have : flipC m (addC c v) = addC (flipC m c) (flipC m v) := by
    unfold flipC
    split
    · simp only [addC, Int.neg_add]
    · rfl
  rw [this, rotN_add]

/-! ### The table of motions -/
def cpM (a b : Nat) : Nat := (compI (a : Int) (b : Int)).toNat
def ivM (a : Nat) : Nat := (invI (a : Int)).toNat
theorem cpM_same : ∀ a, a < 8 → ∀ b, b < 8 → cpM a b < 8 ∧ sameM a b (cpM a b) = true := by decide +kernel
theorem cpM_onto : ∀ a, a < 8 → ∀ n, n < 8 → cpM a (cpM (ivM a) n) = n ∧ cpM (ivM a) n < 8 := by decide +kernel
theorem ivM_two : ∀ a, a < 8 → ivM a < 8 ∧ cpM a (ivM a) = 0 ∧ cpM 0 a = a ∧ (invI (a : Int) = (ivM a : Int)) := by decide +kernel
theorem cpM_back : ∀ i, i < 8 → ∀ j, j < 8 → cpM (cpM i (ivM j)) j = i := by decide +kernel
/-- A motion after another, undone. -/
theorem comp_back {a b : Int} (ha : -1 ≤ a) (ha8 : a ≤ 8) (hb : 0 ≤ b) (hb8 : b ≤ 8) (h : 0 ≤ compI a b) : compI (compI a b) (invI b) = a := by
  have key : ∀ i : Nat, i < 10 → ∀ j : Nat, j < 9 → 0 ≤ compI ((i : Int) - 1) (j : Int) → compI (compI ((i : Int) - 1) (j : Int)) (invI (j : Int)) = (i : Int) - 1 := by decide +kernel
  have ea : (((a + 1).toNat : Nat) : Int) - 1 = a := by omega
  have eb : ((b.toNat : Nat) : Int) = b := by omega
  have := key (a + 1).toNat (by omega) b.toNat (by omega)
  rw [ea, eb] at this
  exact this h

/-! ### Turns of turned shapes -/
theorem map_move (m : Nat) (x y : Int) (l : List Cl) : (moveC x y l).map (apM m) = moveC (apM m (x, y)).1 (apM m (x, y)).2 (l.map (apM m)) := by
  unfold moveC
  rw [List.map_map, List.map_map]
  apply List.map_congr_left
  intro c _
  exact apM_add m c (x, y)
theorem sortU_map_sortU (f : Cl → Cl) (l : List Cl) : sortU ((sortU l).map f) = sortU (l.map f) := by
  refine sortU_unique (sortU_srt _) fun c => ?_
  simp only [sortU_mem, List.mem_map]
theorem turnC_turnC {a b n : Nat} (h : sameM a b n = true) {l : List Cl} (hl : 0 < l.length) : turnC b (turnC a l) = turnC n l := by
  have e0 : 0 < (sortU (l.map (apM a))).length := sortU_pos (by simpa using hl)
  have e1 : 0 < (sortU (((sortU (l.map (apM a))).map (apM b)))).length := sortU_pos (by simpa using e0)
  unfold turnC
  rw [cornerC_move (sortU (l.map (apM a))), map_move, sortU_move, cornerC_of_move _ _ _ e1, sortU_map_sortU, List.map_map]
  congr 2
  apply List.map_congr_left
  intro c _
  exact apM_of_same h c
theorem turnC_comp {a b : Nat} (ha : a < 8) (hb : b < 8) {l : List Cl} (hl : 0 < l.length) : turnC b (turnC a l) = turnC (cpM a b) l := turnC_turnC (cpM_same a ha b hb).2 hl
theorem turnC_back {a : Nat} (ha : a < 8) {l : List Cl} (h : isShape l = true) : turnC (ivM a) (turnC a l) = cornerC l := by
  have hl := ((isShape_iff l).1 h).1.1
  have h2 := ivM_two a ha
  rw [turnC_comp ha h2.1 (by omega), h2.2.1, turnC_zero h]
theorem turnC_length {a : Nat} (ha : a < 8) {l : List Cl} (h : isShape l = true) : (turnC a l).length = l.length := by
  have h1 := turnC_len a l
  have h2 := turnC_len (ivM a) (turnC a l)
  have h3 : (cornerC l).length = l.length := by simp [cornerC]
  rw [turnC_back ha h, h3] at h2
  omega
theorem minX_ex {l : List Cl} (h : 0 < l.length) : (∃ c ∈ l, c.1 = minX l) ∧ (∃ c ∈ l, c.2 = minY l) := by
  obtain ⟨j, hj, e⟩ := minTo_mem Prod.fst l l.length h
  obtain ⟨k, hk, e2⟩ := minTo_mem Prod.snd l l.length h
  exact ⟨⟨_, getD_mem hj, e⟩, ⟨_, getD_mem hk, e2⟩⟩
theorem minX_le {l : List Cl} {c : Cl} (h : c ∈ l) : minX l ≤ c.1 ∧ minY l ≤ c.2 := by
  obtain ⟨j, hj, rfl⟩ := mem_getD h
  exact ⟨minTo_le _ l l.length j hj, minTo_le _ l l.length j hj⟩
theorem apM_sub {m : Nat} {u v : Cl} (hu : inP u = true) (hv : inP v = true) : (apM m u).1 - (apM m v).1 ≤ 7 ∧ (apM m u).2 - (apM m v).2 ≤ 7 := by
  have h1 := inP_out hu
  have h2 := inP_out hv
  have e : u = addC (u.1 - v.1, u.2 - v.2) v := by simp [addC]
  have hr : inR 7 (u.1 - v.1, u.2 - v.2) := by
    unfold inR
    dsimp only
    omega
  have h3 := apM_in m hr
  rw [e, apM_add]
  unfold inR at h3
  unfold addC
  dsimp only at *
  omega
theorem inP_mk {c : Cl} (h1 : 0 ≤ c.1 ∧ c.1 ≤ 7) (h2 : 0 ≤ c.2 ∧ c.2 ≤ 7) : inP c = true := by
  unfold inP inb
  simp
  omega
theorem isShape_turn {a : Nat} (ha : a < 8) {l : List Cl} (h : isShape l = true) : isShape (turnC a l) = true := by
  obtain ⟨h1, h2, h3⟩ := (isShape_iff l).1 h
  rw [isShape_iff, turnC_length ha h]
  refine ⟨h1, ?_, ?_⟩
  · intro c hc
    unfold turnC cornerC at hc
    obtain ⟨L, hL⟩ : ∃ L, sortU (l.map (apM a)) = L := ⟨_, rfl⟩
    rw [hL] at hc
    have hp : 0 < L.length := by rw [← hL]; exact sortU_pos (by simp; omega)
    have hm : ∀ d ∈ L, ∃ u ∈ l, apM a u = d := fun d hd => by
      rw [← hL, sortU_mem, List.mem_map] at hd
      exact hd
    obtain ⟨d, hd, rfl⟩ := List.mem_map.1 hc
    obtain ⟨⟨d1, hd1, e1⟩, ⟨d2, hd2, e2⟩⟩ := minX_ex hp
    have hle := minX_le hd
    obtain ⟨u, hu, rfl⟩ := hm d hd
    obtain ⟨u1, hu1, rfl⟩ := hm d1 hd1
    obtain ⟨u2, hu2, rfl⟩ := hm d2 hd2
    have k1 := (apM_sub (m := a) (h2 u hu) (h2 u1 hu1)).1
    have k2 := (apM_sub (m := a) (h2 u hu) (h2 u2 hu2)).2
    refine inP_mk ?_ ?_
    · dsimp only; omega
    · dsimp only; omega
  · unfold turnC
    rw [cornerC_move]
    exact srt_move (sortU_srt _)
theorem orientS_turn {a : Nat} (ha : a < 8) {l : List Cl} (h : isShape l = true) : orientS (turnC a l) = orientS l := by
  have hl := ((isShape_iff l).1 h).1.1
  unfold orientS
  rw [if_pos h, if_pos (isShape_turn ha h)]
  refine sortG_unique ordS [] (sortG_srt ordS [] _) fun x => ?_
  rw [sortG_mem ordS]
  unfold turnsC
  simp only [List.mem_map, List.mem_range]
  constructor
  · rintro ⟨m, hm, rfl⟩
    exact ⟨cpM a m, (cpM_same a ha m hm).1, (turnC_comp ha hm (by omega)).symm⟩
  · rintro ⟨n, hn, rfl⟩
    have := cpM_onto a ha n hn
    exact ⟨cpM (ivM a) n, this.2, by rw [turnC_comp ha this.2 (by omega), this.1]⟩
theorem canonS_turn {a : Nat} (ha : a < 8) {l : List Cl} (h : isShape l = true) : canonS (turnC a l) = canonS l := by
  unfold canonS
  rw [orientS_turn ha h]
theorem congS_turn {a : Nat} (ha : a < 8) {l : List Cl} (h : isShape l = true) : congS l (turnC a l) = true := by
  unfold congS
  rw [h, isShape_turn ha h, canonS_turn ha h]
  simp
theorem congS_symm (a b : List Cl) : congS a b = congS b a := by
  unfold congS
  rw [Bool.eq_iff_iff]
  simp only [Bool.and_eq_true, decide_eq_true_eq]
  exact ⟨fun h => ⟨⟨h.1.2, h.1.1⟩, h.2.symm⟩, fun h => ⟨⟨h.1.2, h.1.1⟩, h.2.symm⟩⟩
theorem turnS_back {k : Int} {l : List Cl} (h : isShape l = true) (hk0 : 0 ≤ k) (hk : k ≤ 7) : turnS (invI k) (turnC k.toNat l) = cornS l ∧ (isShape (turnC k.toNat l) && inb (invI k) 0 7) = true := by
  have ek : ((k.toNat : Nat) : Int) = k := by omega
  have h2 := ivM_two k.toNat (by omega)
  rw [ek] at h2
  have hin : inb (invI k) 0 7 = true := by
    rw [h2.2.2.2]
    unfold inb
    simp
    omega
  have hb : (isShape (turnC k.toNat l) && inb (invI k) 0 7) = true := by rw [isShape_turn (by omega) h, hin]; rfl
  refine ⟨?_, hb⟩
  unfold turnS cornS
  rw [if_pos hb, if_pos h, h2.2.2.2, Int.toNat_natCast, turnC_back (by omega) h]

/-! ### Orientations times symmetries -/
theorem insG_grow {α : Type} [DecidableEq α] {lt : α → α → Bool} (O : OrdG lt) (d : α) {o : List α} (h : SrtG lt o) (x : α) : (insG lt d o x).length = o.length + if x ∈ o then 0 else 1 := by
  by_cases hx : x ∈ o
  · rw [if_pos hx]
    have : insG lt d o x = o := srtG_unique O (insG_srt O d h x) h fun y => by
      rw [insG_mem]
      exact ⟨fun k => k.elim id (fun e => by rw [e]; exact hx), .inl⟩
    rw [this]
    rfl
  · rw [if_neg hx]
    unfold insG
    have hle := posG_le (lt := lt) (d := d) x o o.length
    rw [if_neg]
    · simp
      omega
    · rintro ⟨h1, h2⟩
      apply hx
      rw [← h2]
      simp [List.getD, show posG lt d x o o.length - 1 < o.length by omega]
theorem turnC_same_iff {i j : Nat} (hi : i < 8) (hj : j < 8) {l : List Cl} (h : isShape l = true) : turnC j l = turnC i l ↔ turnC (cpM i (ivM j)) l = cornerC l := by
  have hl := ((isShape_iff l).1 h).1.1
  have hv := ivM_two j hj
  have hc := cpM_same i hi _ hv.1
  constructor
  · intro e
    rw [← turnC_comp hi hv.1 (by omega), ← e, turnC_back hj h]
  · intro e
    rw [← turnC_zero h] at e
    have h1 := turnC_comp hc.1 hj (l := l) (by omega)
    rw [e, cpM_back i hi j hj, turnC_comp (by omega) hj (by omega), hv.2.2.1] at h1
    exact h1
/-- How many of the first k motions give what none before them gave, by the set of symmetries. -/
def firsts (f : Nat → Bool) : Nat → Nat
  | 0 => 0
  | k + 1 => firsts f k + if ((List.range k).any fun j => f (cpM k (ivM j))) = true then 0 else 1
theorem firsts_succ (f : Nat → Bool) (k : Nat) : firsts f (k + 1) = firsts f k + if ((List.range k).any fun j => f (cpM k (ivM j))) = true then 0 else 1 := rfl
theorem orient_len {l : List Cl} (h : isShape l = true) (f : Nat → Bool) (hf : ∀ m, m < 8 → f m = decide (turnC m l = cornerC l)) : ∀ k, k ≤ 8 → (sortG ltS [] (turnsC l k)).length = firsts f k
  | 0, _ => rfl
  | k + 1, hk => by
    have ih := orient_len h f hf k (by omega)
    have e : sortG ltS [] (turnsC l (k + 1)) = insG ltS [] (sortG ltS [] (turnsC l k)) (turnC k l) := by
      rw [turnsC_succ, sortG, List.foldl_append]
      rfl
    rw [e, insG_grow ordS [] (sortG_srt ordS [] _), ih, firsts_succ]
    have hiff : turnC k l ∈ sortG ltS [] (turnsC l k) ↔ ((List.range k).any fun j => f (cpM k (ivM j))) = true := by
      rw [sortG_mem ordS, List.any_eq_true]
      unfold turnsC
      simp only [List.mem_map, List.mem_range]
      constructor
      · rintro ⟨j, hj, e⟩
        exact ⟨j, hj, by rw [hf _ (cpM_same k (by omega) _ (ivM_two j (by omega)).1).1]; exact decide_eq_true ((turnC_same_iff (by omega) (by omega) h).1 e)⟩
      · rintro ⟨j, hj, e⟩
        rw [hf _ (cpM_same k (by omega) _ (ivM_two j (by omega)).1).1] at e
        exact ⟨j, hj, (turnC_same_iff (by omega) (by omega) h).2 (of_decide_eq_true e)⟩
    by_cases hx : turnC k l ∈ sortG ltS [] (turnsC l k)
    · rw [if_pos hx, if_pos (hiff.1 hx)]
    · rw [if_neg hx, if_neg fun e => hx (hiff.2 e)]
theorem syms_len {l : List Cl} (f : Nat → Bool) (hf : ∀ m, m < 8 → f m = decide (turnC m l = cornerC l)) : (symTo l 8).length = ((List.range 8).filter f).length := by
  unfold symTo
  rw [List.length_map]
  congr 1
  apply List.filter_congr
  intro m hm
  rw [hf m (List.mem_range.1 hm)]
def bitsF (b0 b1 b2 b3 b4 b5 b6 b7 : Bool) (m : Nat) : Bool := match m with | 0 => b0 | 1 => b1 | 2 => b2 | 3 => b3 | 4 => b4 | 5 => b5 | 6 => b6 | 7 => b7 | _ => false
def closedF (f : Nat → Bool) : Bool := f 0 && (List.range 8).all fun a => (List.range 8).all fun b => !(f a && f b) || f (cpM a b)
theorem bits_eight : ∀ b0 b1 b2 b3 b4 b5 b6 b7 : Bool, closedF (bitsF b0 b1 b2 b3 b4 b5 b6 b7) = true → firsts (bitsF b0 b1 b2 b3 b4 b5 b6 b7) 8 * ((List.range 8).filter (bitsF b0 b1 b2 b3 b4 b5 b6 b7)).length = 8 := by decide +kernel
/-- A shape's orientations times its symmetries are eight. -/
theorem orient_sym {l : List Cl} (h : isShape l = true) : (orientS l).length * (symS l).length = 8 := by
  have hl := ((isShape_iff l).1 h).1.1
  unfold orientS symS
  rw [if_pos h, if_pos h]
  obtain ⟨p, hp⟩ : ∃ p : Nat → Bool, ∀ m, p m = decide (turnC m l = cornerC l) := ⟨_, fun _ => rfl⟩
  obtain ⟨f, hf⟩ : ∃ f, bitsF (p 0) (p 1) (p 2) (p 3) (p 4) (p 5) (p 6) (p 7) = f := ⟨_, rfl⟩
  have hfp : ∀ m, m < 8 → f m = p m := by
    intro m hm
    rw [← hf]
    have : m = 0 ∨ m = 1 ∨ m = 2 ∨ m = 3 ∨ m = 4 ∨ m = 5 ∨ m = 6 ∨ m = 7 := by omega
    rcases this with rfl | rfl | rfl | rfl | rfl | rfl | rfl | rfl <;> rfl
  have hfd : ∀ m, m < 8 → f m = decide (turnC m l = cornerC l) := fun m hm => (hfp m hm).trans (hp m)
  rw [orient_len h f hfd 8 (by omega), syms_len f hfd, ← hf]
  refine bits_eight _ _ _ _ _ _ _ _ ?_
  rw [hf]
  unfold closedF
  rw [Bool.and_eq_true, List.all_eq_true]
  refine ⟨by rw [hfd 0 (by omega)]; exact decide_eq_true (turnC_zero h), fun a ha => ?_⟩
  rw [List.all_eq_true]
  intro b hb
  have ha := List.mem_range.1 ha
  have hb := List.mem_range.1 hb
  have hc := cpM_same a ha b hb
  rw [hfd a ha, hfd b hb, hfd _ hc.1]
  by_cases h1 : turnC a l = cornerC l
  · by_cases h2 : turnC b l = cornerC l
    · have : turnC (cpM a b) l = cornerC l := by
        rw [← turnC_comp ha hb (by omega), h1, ← turnC_zero h, turnC_comp (by omega) hb (by omega), (ivM_two b hb).2.2.1, h2, turnC_zero h]
      simp [this]
    · simp [h2]
  · simp [h1]
end

end Go.Proofs.YtkcclhnligajeaaGreatDoor
