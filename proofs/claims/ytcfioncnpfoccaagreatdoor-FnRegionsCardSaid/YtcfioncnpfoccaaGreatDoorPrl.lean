/-
  Parts and areas: plain facts for the law on all regions, nothing of the program.
  Areas of parts, of what is left when a cell is taken out, of a shape's region: plain facts for the law on all regions.
-/
import Derived.Test.YtcfioncnpfoccaaGreatDoorPr2
import Derived.Test.YtcfioncnpfoccaaGreatDoorSra
import Derived.Test.YtcfioncnpfoccaaGreatDoorPr3
namespace Go.Proofs.YtcfioncnpfoccaaGreatDoor

section
/-! ### A part has one part -/
theorem way_part {W H : Nat} {l : List Int} (hl : Rg W H l) {c q : Cl} (h : Way (InP l) c q) : Way (InP (partR W H l c)) c q := by
  have hf := (partR_facts hl c).2
  induction h with
  | base hc => exact .base ((hf _).2 (.base hc))
  | step hw hn ha ih => exact .step ih hn ((hf _).2 (.step hw hn ha))
theorem parts_one {W H : Nat} {l : List Int} (hl : Rg W H l) {c : Cl} (hc : bt l c = true) : partsB W H (partR W H l c) = [partR W H l c] := by
  obtain ⟨hp, hf⟩ := partR_facts hl c
  have hall : ∀ d q, bt (partR W H l c) d = true → bt (partR W H l c) q = true → Way (InP (partR W H l c)) d q := fun d q hd hq => (way_part hl ((hf d).1 hd)).symm.trans (way_part hl ((hf q).1 hq))
  have hcm : c ∈ cellsB W H (partR W H l c) := (mem_cellsB hp c).2 ((hf c).2 (.base hc))
  have hpos : 0 < (cellsB W H (partR W H l c)).length := List.length_pos_of_mem hcm
  generalize partR W H l c = p at hp hall hpos
  have hb : ∀ j, j < (cellsB W H p).length → bt p ((cellsB W H p).getD j (0, 0)) = true := fun j hj => (mem_cellsB hp _).1 (getD_mem hj)
  have h1 : partsTo W H p 1 = [p] := by
    rw [partsTo_yes (Un.zero _ _ _)]
    have e : partR W H p ((cellsB W H p).getD 0 (0, 0)) = p := (partR_eq hp _ hp fun q => ⟨fun hq => hall _ _ (hb 0 hpos) hq, fun hw => hw.snd⟩).symm
    rw [e]
    rfl
  have h2 : ∀ k, 1 ≤ k → k ≤ (cellsB W H p).length → partsTo W H p k = [p] := by
    intro k
    induction k with
    | zero => intro h _; omega
    | succ k ih =>
      intro _ hk
      by_cases e : k = 0
      · subst e; exact h1
      · rw [partsTo_no fun hu => hu 0 (by omega) (hall _ _ (hb 0 hpos) (hb k (by omega)))]
        exact ih (by omega) (by omega)
  exact h2 _ hpos (Nat.le_refl _)

/-! ### The parts' areas -/
theorem filter_two {α : Type} (A B : α → Bool) : ∀ L : List α, (∀ q ∈ L, ¬ (A q = true ∧ B q = true)) → (L.filter fun q => A q || B q).length = (L.filter A).length + (L.filter B).length
  | [], _ => rfl
  | x :: r, h => by
    have ih := filter_two A B r fun q hq => h q (by simp [hq])
    have hx := h x (by simp)
    simp only [List.filter_cons]
    cases ha : A x <;> cases hb : B x <;> simp_all <;> omega
theorem cells_part {W H : Nat} {l : List Int} (hl : Rg W H l) (c : Cl) : cellsB W H (partR W H l c) = (cellsB W H l).filter fun q => dP (Way (InP l) c q) := by
  obtain ⟨hp, hf⟩ := partR_facts hl c
  refine srt_unique (cellsB_srt _ _ _) (List.Pairwise.sublist List.filter_sublist (cellsB_srt _ _ _)) fun q => ?_
  rw [mem_cellsB hp, hf q, List.mem_filter, mem_cellsB hl, dP_iff]
  exact ⟨fun h => ⟨h.snd, h⟩, fun h => h.2⟩
theorem sum_to {W H : Nat} {l : List Int} (hl : Rg W H l) : ∀ k, k ≤ (cellsB W H l).length → ((partsTo W H l k).map fun p => (cellsB W H p).length).sum = ((cellsB W H l).filter fun q => !dP (Un l (cellsB W H l) k q)).length
  | 0, _ => by
    have e : (cellsB W H l).filter (fun q => !dP (Un l (cellsB W H l) 0 q)) = [] := by
      rw [List.filter_eq_nil_iff]
      intro q _
      rw [(dP_iff _).2 (Un.zero _ _ q)]
      simp
    rw [e]
    rfl
  | k + 1, hk => by
    have ih := sum_to hl k (by omega)
    by_cases hu : Un l (cellsB W H l) k ((cellsB W H l).getD k (0, 0))
    · rw [partsTo_yes hu, List.map_append, List.sum_append, ih]
      have e : ((cellsB W H l).filter fun q => !dP (Un l (cellsB W H l) (k + 1) q)) = (cellsB W H l).filter fun q => (!dP (Un l (cellsB W H l) k q)) || dP (Way (InP l) ((cellsB W H l).getD k (0, 0)) q) := by
        refine List.filter_congr fun q _ => ?_
        rw [Bool.eq_iff_iff, Bool.or_eq_true, Bool.not_eq_true', Bool.not_eq_true', ← Bool.not_eq_true, ← Bool.not_eq_true, dP_iff, dP_iff, dP_iff, Un.succ]
        constructor
        · intro h
          by_cases h1 : Un l (cellsB W H l) k q
          · exact .inr (Classical.byContradiction fun h2 => h ⟨h1, h2⟩)
          · exact .inl h1
        · rintro (h | h) h2
          · exact h h2.1
          · exact h2.2 h
      rw [e, filter_two _ _ _ fun q _ h => ?_]
      · rw [← cells_part hl]
        simp
      · obtain ⟨h1, h2⟩ := h
        rw [Bool.not_eq_true', ← Bool.not_eq_true, dP_iff] at h1
        exact h1 (hu.way ((dP_iff _).1 h2))
    · rw [partsTo_no hu, ih]
      congr 1
      refine List.filter_congr fun q _ => ?_
      rw [Bool.eq_iff_iff, Bool.not_eq_true', Bool.not_eq_true', ← Bool.not_eq_true, ← Bool.not_eq_true, dP_iff, dP_iff, Un.succ]
      constructor
      · exact fun h h2 => h h2.1
      · exact fun h h2 => h ⟨h2, fun hw => hu (h2.way hw.symm)⟩
theorem sum_parts {W H : Nat} {l : List Int} (hl : Rg W H l) : ((partsB W H l).map fun p => (cellsB W H p).length).sum = (cellsB W H l).length := by
  unfold partsB
  rw [sum_to hl _ (Nat.le_refl _)]
  congr 1
  rw [List.filter_eq_self]
  intro q hq
  rw [Bool.not_eq_true', ← Bool.not_eq_true, dP_iff]
  intro hu
  obtain ⟨j, hj, rfl⟩ := mem_getD hq
  exact hu j hj (.base ((mem_cellsB hl _).1 hq))
end

section
theorem partsB_mem {W H : Nat} {l : List Int} (hl : Rg W H l) : ∀ p ∈ partsB W H l, Rg W H p ∧ partsB W H p = [p] := fun p hp => by
  obtain ⟨c, hc, rfl⟩ := partsTo_mem _ (Nat.le_refl _) p hp
  exact ⟨(partR_facts hl c).1, parts_one hl ((mem_cellsB hl c).1 hc)⟩
theorem partsR_one {W : Int} {l : List Int} : ∀ p ∈ partsR W l, isReg W p = true ∧ partsR W p = [p] := fun p hp => by
  cases h : isReg W l with
  | false => rw [partsR_no h] at hp; cases hp
  | true =>
    obtain ⟨N, rfl, hr⟩ := isReg_out h
    rw [partsR_yes hr] at hp
    obtain ⟨h1, h2⟩ := partsB_mem hr p hp
    exact ⟨isReg_of h1, by rw [partsR_yes h1]; exact h2⟩
def areaTo (W : Int) (ps : List (List Int)) (k : Nat) : Int := ((ps.take k).map fun p => areaR W p).sum
theorem areaTo_zero (W : Int) (ps : List (List Int)) : areaTo W ps 0 = 0 := rfl
theorem areaTo_step (W : Int) (ps : List (List Int)) (k : Nat) (h : k < ps.length) : areaTo W ps (k + 1) = areaTo W ps k + areaR W (ps.getD k []) := by
  unfold areaTo
  rw [List.take_succ_eq_append_getElem h, List.map_append, List.sum_append]
  simp [List.getD, h]
theorem sum_cast (f : List Int → Nat) : ∀ ps : List (List Int), (ps.map fun p => (f p : Int)).sum = ((ps.map f).sum : Nat)
  | [] => rfl
  | p :: r => by simp only [List.map_cons, List.sum_cons, sum_cast f r]; omega
theorem area_parts {W : Int} {l : List Int} (h : isReg W l = true) : areaTo W (partsR W l) (partsR W l).length = areaR W l := by
  obtain ⟨N, rfl, hr⟩ := isReg_out h
  unfold areaTo
  rw [List.take_length, partsR_yes hr, areaR_yes hr, ← sum_parts hr, ← sum_cast]
  congr 1
  refine List.map_congr_left fun p hp => ?_
  exact areaR_yes (partsB_mem hr p hp).1
theorem rem_area {W : Int} {l : List Int} {x y : Int} (h : cellB W l x y = true) : areaR W (remR W l x y) = areaR W l - 1 ∧ cellB W (remR W l x y) x y = false := by
  rw [remR_yes h]
  unfold cellB at h
  rw [Bool.and_eq_true] at h
  obtain ⟨N, rfl, hr⟩ := isReg_out h.1
  have hb := hr.bt_in h.2
  have hG : inG N l.length (x, y) := hb
  have hc := hr.clr hG
  have hm := hr.bt_clr hG
  rw [areaR_yes hr, areaR_yes hc]
  constructor
  · have h1 := nodup_sub_len ((x, y) :: cellsB N l.length (clrB l (x, y))) (cellsB N l.length l) (List.nodup_cons.2 ⟨fun h9 => ((hm _).1 ((mem_cellsB hc _).1 h9)).2 rfl, srt_nodup (cellsB_srt _ _ _)⟩) (fun q hq => by
      rcases List.mem_cons.1 hq with rfl | hq
      · exact (mem_cellsB hr _).2 h.2
      · exact (mem_cellsB hr q).2 ((hm q).1 ((mem_cellsB hc q).1 hq)).1)
    have h2 := nodup_sub_len (cellsB N l.length l) ((x, y) :: cellsB N l.length (clrB l (x, y))) (srt_nodup (cellsB_srt _ _ _)) (fun q hq => by
      rw [List.mem_cons]
      by_cases e : q = (x, y)
      · exact .inl e
      · exact .inr ((mem_cellsB hc q).2 ((hm q).2 ⟨(mem_cellsB hr q).1 hq, e⟩)))
    rw [List.length_cons] at h1 h2
    omega
  · unfold cellB
    cases h9 : bt (clrB l (x, y)) (x, y) with
    | false => simp
    | true => exact absurd rfl ((hm _).1 h9).2
theorem rows_area {W H : Nat} (h1 : 1 ≤ W) (h2 : W ≤ 6) (h3 : 1 ≤ H) (h4 : H ≤ 6) {cs : List Cl} (hi : ∀ c ∈ cs, inG W H c) (hn : cs.Nodup) : areaR W (rowsOf H cs) = cs.length := by
  obtain ⟨hr, hb⟩ := rowsOf_facts h1 h2 h3 h4 hi
  rw [areaR_yes hr]
  have a := nodup_sub_len cs (cellsB W H (rowsOf H cs)) hn fun q hq => (mem_cellsB hr q).2 ((hb q).2 hq)
  have b := nodup_sub_len (cellsB W H (rowsOf H cs)) cs (srt_nodup (cellsB_srt _ _ _)) fun q hq => (hb q).1 ((mem_cellsB hr q).1 hq)
  omega

theorem fmt_back {W : Int} {l : List Int} (h : isReg W l = true) : okQ (fmtR W l) ∧ resW (fmtR W l) = W ∧ resL (fmtR W l) = l := by
  obtain ⟨N, rfl, hr⟩ := isReg_out h
  have hq : okQ (fmtR N l) := ⟨_, _, h, rfl⟩
  obtain ⟨h1, h2⟩ := ps_back hr
  exact ⟨hq, (res_yes hq).1.trans h1, (res_yes hq).2.trans h2⟩
theorem fmt_none {W : Int} {l : List Int} (h : isReg W l = false) : ¬ okQ (fmtR W l) := fun hq => by
  obtain ⟨_, _, _, _, _, _, _, h1, _⟩ := okQ_out hq
  rw [fmtR_no h] at h1
  simp at h1
theorem corner_len {l : List Cl} (h : isShape l = true) : (cornS l).length = l.length := by
  have e : cornS l = cornerC l := if_pos h
  rw [e]
  simp [cornerC]
theorem shp_area {l : List Cl} (h : shpOk l = true) : areaR (shpW l) (shpL l) = l.length := by
  obtain ⟨N, M, e1, e2, hN, hM, hs, hin, hnd, _⟩ := shp_out h
  rw [(shp_yes h).1, (shp_yes h).2, e1, e2, Int.toNat_natCast, rows_area hN.1 hN.2 hM.1 hM.2 hin hnd, corner_len hs]
end

end Go.Proofs.YtcfioncnpfoccaaGreatDoor
