/-
  Enumeration: what comes of taking one cell away; plain facts.
  Shapes turned: the order in which one moves and sorts does not matter; plain facts.
  Symmetries, congruence and mirror images: where the program's words and the model's are one; plain facts.
-/
import Derived.Test.YtkcclhnligajeaaDoorVad
import Derived.Test.YtkcclhnligajeaaDoorPu3
namespace Go.Proofs.YtkcclhnligajeaaDoor

section
def delC (l : List Cl) (i : Nat) : List Cl := l.take i ++ l.drop (i + 1)
theorem delC_len (l : List Cl) (i : Nat) (h : i < l.length) : (delC l i).length = l.length - 1 := by
  unfold delC
  simp
  omega
/-- The list of a shape's parents: in order, each once, all of them. -/
def IsPar (l : List Cl) (L : List (List Cl)) : Prop := SrtG ltS L ∧ ∀ x, x ∈ L ↔ isShape l = true ∧ ∃ i, i < l.length ∧ Conn (delC l i) ∧ x = cornerC (delC l i)
/-- .. as far as the first k places. -/
def ParTo (l : List Cl) (k : Nat) (L : List (List Cl)) : Prop := SrtG ltS L ∧ ∀ x, x ∈ L ↔ ∃ i, i < k ∧ Conn (delC l i) ∧ x = cornerC (delC l i)
theorem parTo_zero (l : List Cl) : ParTo l 0 [] := ⟨List.Pairwise.nil, fun x => ⟨fun h => (by cases h), fun ⟨i, h, _⟩ => absurd h (Nat.not_lt_zero i)⟩⟩
theorem parTo_skip {l : List Cl} {k : Nat} {L : List (List Cl)} (h : ParTo l k L) (hc : ¬ Conn (delC l k)) : ParTo l (k + 1) L :=
  ⟨h.1, fun x => (h.2 x).trans ⟨fun ⟨i, hi, h2⟩ => ⟨i, by omega, h2⟩, fun ⟨i, hi, h2, h3⟩ => ⟨i, by
    by_cases e : i = k
    · exact absurd (e ▸ h2) hc
    · omega, h2, h3⟩⟩⟩
theorem parTo_put {l : List Cl} {k : Nat} {L : List (List Cl)} (h : ParTo l k L) (hc : Conn (delC l k)) : ParTo l (k + 1) (insG ltS [] L (cornerC (delC l k))) :=
  ⟨insG_srt ordS [] h.1 _, fun x => by
    rw [insG_mem, h.2 x]
    constructor
    · rintro (⟨i, hi, h2⟩ | rfl)
      · exact ⟨i, by omega, h2⟩
      · exact ⟨k, by omega, hc, rfl⟩
    · rintro ⟨i, hi, h2, h3⟩
      by_cases e : i = k
      · subst e; exact .inr h3
      · exact .inl ⟨i, by omega, h2, h3⟩⟩
theorem parTo_all {l : List Cl} {L : List (List Cl)} (hs : isShape l = true) (h : ParTo l l.length L) : IsPar l L := ⟨h.1, fun x => (h.2 x).trans ⟨fun h2 => ⟨hs, h2⟩, fun h2 => h2.2⟩⟩
theorem isPar_none {l : List Cl} (hs : isShape l = false) : IsPar l [] := ⟨List.Pairwise.nil, fun x => ⟨fun h => (by cases h), fun ⟨h, _⟩ => by rw [hs] at h; cases h⟩⟩
theorem isPar_unique {l : List Cl} {L M : List (List Cl)} (h : IsPar l L) (k : IsPar l M) : L = M := srtG_unique ordS h.1 k.1 fun x => (h.2 x).trans (k.2 x).symm
theorem isPar_ex (l : List Cl) : ∃ L, IsPar l L := by
  cases hs : isShape l with
  | false => exact ⟨[], isPar_none hs⟩
  | true =>
    have key : ∀ k, ∃ L, ParTo l k L := by
      intro k
      induction k with
      | zero => exact ⟨[], parTo_zero l⟩
      | succ k ih =>
        obtain ⟨L, hL⟩ := ih
        rcases Classical.em (Conn (delC l k)) with hc | hc
        · exact ⟨_, parTo_put hL hc⟩
        · exact ⟨L, parTo_skip hL hc⟩
    obtain ⟨L, hL⟩ := key l.length
    exact ⟨L, parTo_all hs hL⟩
theorem parTo_le {l : List Cl} : ∀ {k : Nat} {L : List (List Cl)}, ParTo l k L → L.length ≤ k
  | 0, L, h => by
    cases L with
    | nil => simp
    | cons x r => obtain ⟨i, hi, _⟩ := (h.2 x).1 (by simp); omega
  | k + 1, L, h => by
    have : ∃ M, ParTo l k M := by
      clear h
      induction k with
      | zero => exact ⟨[], parTo_zero l⟩
      | succ k ih =>
        obtain ⟨M, hM⟩ := ih
        rcases Classical.em (Conn (delC l k)) with hc | hc
        · exact ⟨_, parTo_put hM hc⟩
        · exact ⟨M, parTo_skip hM hc⟩
    obtain ⟨M, hM⟩ := this
    have hM2 := parTo_le hM
    rcases Classical.em (Conn (delC l k)) with hc | hc
    · have e : L = insG ltS [] M (cornerC (delC l k)) := srtG_unique ordS h.1 (parTo_put hM hc).1 fun x => (h.2 x).trans ((parTo_put hM hc).2 x).symm
      have := insG_le ltS [] M (cornerC (delC l k))
      rw [e]
      omega
    · have e : L = M := srtG_unique ordS h.1 hM.1 fun x => (h.2 x).trans ((parTo_skip hM hc).2 x).symm
      rw [e]
      omega
theorem isPar_shape {l : List Cl} {L : List (List Cl)} (h : IsPar l L) {x : List Cl} (hx : x ∈ L) : isShape x = true := by
  obtain ⟨_, i, _, hc, rfl⟩ := (h.2 x).1 hx
  exact isShape_corner hc.1
theorem isPar_le {l : List Cl} {L : List (List Cl)} (h : IsPar l L) : L.length ≤ 8 := by
  cases hs : isShape l with
  | false =>
    have := isPar_unique h (isPar_none hs)
    rw [this]
    simp
  | true =>
    have h8 := ((isShape_iff l).1 hs).1.2
    have : ParTo l l.length L := ⟨h.1, fun x => (h.2 x).trans ⟨fun h2 => h2.2, fun h2 => ⟨hs, h2⟩⟩⟩
    have := parTo_le this
    omega
end

section
theorem sortU_move (x y : Int) (l : List Cl) : sortU (moveC x y l) = moveC x y (sortU l) := by
  refine (sortU_unique (srt_move (sortU_srt l)) fun c => ?_).symm
  unfold moveC
  simp only [List.mem_map, sortU_mem]
theorem minTo_same (f : Cl → Int) {A C : List Cl} (hA : 0 < A.length) (h : ∀ c, c ∈ A ↔ c ∈ C) : minTo f A A.length = minTo f C C.length := by
  have hC : 0 < C.length := List.length_pos_of_mem ((h _).1 (getD_mem hA))
  refine minTo_eq hA (fun j hj => ?_) ?_
  · obtain ⟨i, hi, e⟩ := mem_getD ((h _).1 (getD_mem hj))
    rw [← e]
    exact minTo_le f C C.length i hi
  · obtain ⟨i, hi, e⟩ := minTo_mem f C C.length hC
    obtain ⟨j, hj, e2⟩ := mem_getD ((h _).2 (getD_mem hi))
    exact ⟨j, hj, by rw [e2, e]⟩
theorem sortU_pos {l : List Cl} (h : 0 < l.length) : 0 < (sortU l).length := List.length_pos_of_mem ((sortU_mem l _).2 (getD_mem h))
theorem cornerC_sortU {l : List Cl} (h : 0 < l.length) : cornerC (sortU l) = sortU (cornerC l) := by
  have e1 : minX (sortU l) = minX l := minTo_same _ (sortU_pos h) (sortU_mem l)
  have e2 : minY (sortU l) = minY l := minTo_same _ (sortU_pos h) (sortU_mem l)
  rw [cornerC_move, cornerC_move, e1, e2, sortU_move]
/-- Turned, moved to the corner, put in order: the program's way. -/
theorem turnC_prog (m : Nat) {l : List Cl} (h : 0 < l.length) : turnC m l = sortU (cornerC (l.map (apM m))) := cornerC_sortU (by simpa using h)
theorem fill_map (f : Cl → Cl) (l : List Cl) (k n : Nat) (h : k < n) (hl : l.length = n) : ((l.take k).map f ++ List.replicate (n - k) ((0 : Int), (0 : Int))).set k (f (l.getD k (0, 0))) = (l.take (k + 1)).map f ++ List.replicate (n - (k + 1)) (0, 0) := by
  have e : n - k = (n - (k + 1)) + 1 := by omega
  have el : ((l.take k).map f).length = k := by simp; omega
  rw [e, List.replicate_succ, List.set_append_right _ _ (by omega), el, Nat.sub_self, List.set_cons_zero, take_snoc l k (by omega), List.map_append, List.append_assoc]
  rfl
theorem over_map (f : Cl → Cl) (l : List Cl) (k : Nat) (h : k < l.length) : ((l.take k).map f ++ l.drop k).set k (f (l.getD k (0, 0))) = (l.take (k + 1)).map f ++ l.drop (k + 1) := by
  have el : ((l.take k).map f).length = k := by simp; omega
  have ed : l.drop k = l.getD k (0, 0) :: l.drop (k + 1) := by rw [List.drop_eq_getElem_cons h]; simp [List.getD, h]
  rw [ed, List.set_append_right _ _ (by omega), el, Nat.sub_self, List.set_cons_zero, take_snoc l k h, List.map_append, List.append_assoc]
  rfl
theorem over_get (f : Cl → Cl) (l : List Cl) (k : Nat) (h : k < l.length) : ((l.take k).map f ++ l.drop k).getD k (0, 0) = l.getD k (0, 0) := by
  have el : ((l.take k).map f).length = k := by simp; omega
  simp only [List.getD_eq_getElem?_getD]
  rw [List.getElem?_append_right (by omega), el, Nat.sub_self, List.getElem?_drop, Nat.add_zero]
end

section
theorem apM_zero (c : Cl) : apM 0 c = c := by simp [apM, rotN, flipC]
theorem srt_sortU {l : List Cl} (h : Srt l) : sortU l = l := (sortU_unique h fun _ => Iff.rfl).symm
theorem turnC_zero {l : List Cl} (h : isShape l = true) : turnC 0 l = cornerC l := by
  have hs := ((isShape_iff l).1 h).2.2
  unfold turnC
  rw [show l.map (apM 0) = l by rw [List.map_congr_left (g := id) (fun c _ => apM_zero c)]; simp, srt_sortU hs]
theorem symS_ne {l : List Cl} (h : isShape l = true) : symS l ≠ [] := by
  intro e
  have : (0 : Int) ∈ symS l := by
    unfold symS symTo
    rw [if_pos h, List.mem_map]
    exact ⟨0, by rw [List.mem_filter]; exact ⟨by simp, by simpa using turnC_zero h⟩, rfl⟩
  rw [e] at this
  cases this
theorem turnC_pos (m : Nat) {l : List Cl} (h : 0 < l.length) : 0 < (turnC m l).length := by
  have : 0 < (sortU (l.map (apM m))).length := sortU_pos (by simpa using h)
  unfold turnC cornerC
  simpa using this
theorem turnsC_len (l : List Cl) (k : Nat) : (turnsC l k).length = k := by simp [turnsC]
theorem turnsC_get (l : List Cl) {k n : Nat} (h : k < n) : (turnsC l n)[k]? = some (turnC k l) := by simp [turnsC, h]
theorem orient_pos {l : List Cl} (h : isShape l = true) : 0 < (orientS l).length := by
  unfold orientS
  rw [if_pos h]
  refine List.length_pos_of_mem (a := turnC 0 l) ((sortG_mem ordS [] _ _).2 ?_)
  exact List.mem_of_getElem? (turnsC_get l (by omega))
theorem canonS_pos {l : List Cl} (h : isShape l = true) : 0 < (canonS l).length := by
  have h0 := orient_pos h
  have hl := ((isShape_iff l).1 h).1.1
  have hm : (orientS l).getD 0 [] ∈ orientS l := by simp [List.getD, h0]
  have hm2 : canonS l ∈ orientS l := hm
  unfold orientS at hm2
  rw [if_pos h, sortG_mem ordS] at hm2
  obtain ⟨m, _, e⟩ := List.mem_map.1 hm2
  rw [← e]
  exact turnC_pos m (by omega)
theorem canonS_no {l : List Cl} (h : isShape l = false) : canonS l = [] := by
  have : orientS l = [] := if_neg (by rw [h]; simp)
  unfold canonS
  rw [this]
  rfl
theorem congS_prog (a b : List Cl) : congS a b = (isShape a && decide (canonS a = canonS b)) := by
  unfold congS
  cases ha : isShape a with
  | false => rfl
  | true =>
    cases hb : isShape b with
    | true => simp
    | false =>
      have : canonS a ≠ canonS b := by
        intro e
        have := canonS_pos ha
        rw [e, canonS_no hb] at this
        simp at this
      simp [this]
theorem chirS_prog (l : List Cl) : chirS l = (isShape l && !(symS l).any fun m => decide (4 ≤ m)) := by
  unfold chirS
  have e : ((symS l).all fun m => decide (m < 4)) = !(symS l).any fun m => decide (4 ≤ m) := by
    rw [List.not_any_eq_all_not]
    congr 1
    funext m
    by_cases h : m < 4
    · simp [h]
    · simp [h]; omega
  rw [e]
  cases h : isShape l with
  | true => simp [symS_ne h]
  | false =>
    have : symS l = [] := if_neg (by rw [h]; simp)
    simp [this]
end

end Go.Proofs.YtkcclhnligajeaaDoor
