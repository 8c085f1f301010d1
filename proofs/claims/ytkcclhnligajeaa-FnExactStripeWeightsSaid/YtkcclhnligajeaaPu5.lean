/-
  Symmetries, congruence and mirror images: where the program's words and the model's are one; plain facts.
-/
import Derived.Test.YtkcclhnligajeaaVad
namespace Go.Proofs.Ytkcclhnligajeaa

theorem apM_zero (c : Cl) : apM 0 c = c := by simp [apM, rotN, flipC]
theorem srt_sortU {l : List Cl} (h : Srt l) : sortU l = l := (sortU_unique h fun _ => Iff.rfl).symm
theorem turnC_zero {l : List Cl} (h : isShape l = true) : turnC 0 l = cornerC l := by
  have hs := ((isShape_iff l).1 h).2.2
  unfold turnC
  rw [show l.map (apM 0) = l by rw [List.map_congr_left (g := id) (fun c _ => apM_zero c)]; simp, srt_sortU hs]
theorem symS_ne {l : List Cl} (h : isShape l = true) : symS l ≠ [] := by
  intro e
  have : (0 : Int) ∈ symS l := by
    unfold symS symTo
    rw [if_pos h, List.mem_map]
    exact ⟨0, by rw [List.mem_filter]; exact ⟨by simp, by simpa using turnC_zero h⟩, rfl⟩
  rw [e] at this
  cases this
theorem turnC_pos (m : Nat) {l : List Cl} (h : 0 < l.length) : 0 < (turnC m l).length := by
  have : 0 < (sortU (l.map (apM m))).length := sortU_pos (by simpa using h)
  unfold turnC cornerC
  simpa using this
theorem turnsC_len (l : List Cl) (k : Nat) : (turnsC l k).length = k := by simp [turnsC]
theorem turnsC_get (l : List Cl) {k n : Nat} (h : k < n) : (turnsC l n)[k]? = some (turnC k l) := by simp [turnsC, h]
theorem orient_pos {l : List Cl} (h : isShape l = true) : 0 < (orientS l).length := by
  unfold orientS
  rw [if_pos h]
  refine List.length_pos_of_mem (a := turnC 0 l) ((sortG_mem ordS [] _ _).2 ?_)
  exact List.mem_of_getElem? (turnsC_get l (by omega))
theorem canonS_pos {l : List Cl} (h : isShape l = true) : 0 < (canonS l).length := by
  have h0 := orient_pos h
  have hl := ((isShape_iff l).1 h).1.1
  have hm : (orientS l).getD 0 [] ∈ orientS l := by simp [List.getD, h0]
  have hm2 : canonS l ∈ orientS l := hm
  unfold orientS at hm2
  rw [if_pos h, sortG_mem ordS] at hm2
  obtain ⟨m, _, e⟩ := List.mem_map.1 hm2
  rw [← e]
  exact turnC_pos m (by omega)
theorem canonS_no {l : List Cl} (h : isShape l = false) : canonS l = [] := by
  have : orientS l = [] := if_neg (by rw [h]; simp)
  unfold canonS
  rw [this]
  rfl
theorem congS_prog (a b : List Cl) : congS a b = (isShape a && decide (canonS a = canonS b)) := by
  unfold congS
  cases ha : isShape a with
  | false => rfl
  | true =>
    cases hb : isShape b with
    | true => simp
    | false =>
      have : canonS a ≠ canonS b := by
        intro e
        have := canonS_pos ha
        rw [e, canonS_no hb] at this
        simp at this
      simp [this]
theorem chirS_prog (l : List Cl) : chirS l = (isShape l && !(symS l).any fun m => decide (4 ≤ m)) := by
  unfold chirS
  have e : ((symS l).all fun m => decide (m < 4)) = !(symS l).any fun m => decide (4 ≤ m) := by
    rw [List.not_any_eq_all_not]
    congr 1
    funext m
    by_cases h : m < 4
    · simp [h]
    · simp [h]; omega
  rw [e]
  cases h : isShape l with
  | true => simp [symS_ne h]
  | false =>
    have : symS l = [] := if_neg (by rw [h]; simp)
    simp [this]

end Go.Proofs.Ytkcclhnligajeaa
