/-
  Cells put into order, in the program: what the call gives.
-/
import Derived.Test.YtghpljoccclmkaaGreatIcp
namespace Go.Proofs.YtghpljoccclmkaaGreat
open Go.RowKit Go.Sort

theorem ltOf_cmpC : ltOf cmpC = bef := by
  funext x y
  unfold ltOf
  exact cmpC_neg x y
theorem bef_swo : SWO (ltOf cmpC) := by
  rw [ltOf_cmpC]
  exact ⟨bef_irr, fun x y z h k => bef_trans h k, fun x y z h k => by rw [bef_not] at *; omega⟩
theorem isAgg_cell : ∀ w, (isAgg 53).run Tryz.prog w = .ok true w := Tryz.isAgg53
theorem sizeOf_cell : ∀ w, (Go.sizeOf 53).run Tryz.prog w = .ok 2 w := Tryz.sizeOf53

theorem iSortFunc (B n g cap : Nat) (l : List Cl) (w : World) (hn : n ≤ 4194304) (hown : w.ownsRow B 53 2 (.slice (some ⟨g, 0, none⟩) n cap) n (cvs l)) :
    Calls Tryz.prog 120 #[.slice (some ⟨g, 0, none⟩) n cap, .func (.func 74) #[] #[]] w fun e w' => e = .returned (.tuple #[]) ∧ w'.ownsRow B 53 2 (.slice (some ⟨g, 0, none⟩) n cap) n (cvs (l.mergeSort fun x y => !bef y x)) ∧ w.grownBy w' (some g) := by
  have hl : l.length = n := by have := hown.1; rw [cvs_length] at this; omega
  have eg : ∀ args w, (callFunc 74 args).run Tryz.prog w = .ok (.enter 74 args) w := enters_of Tryz.func74 (by kernel_rfl) rfl
  have hcmp : CmpLays Tryz.prog 74 #[] cv 2 cmpC g 0 l.toArray.size w := fun _ _ _ _ x y => (iCompare x.1 x.2 y.1 y.2 _).mono fun _ _ ⟨he, hw, _⟩ => ⟨he, hw⟩
  have h := AnyQ.slices_SortFunc_total Tryz.sortCells 2 isAgg_cell sizeOf_cell cv (fun _ => rfl) (fun x v hv => by simp [cv] at hv; rcases hv with rfl | rfl <;> rfl) cmpC bef_swo 74 #[] g 0 cap l.toArray w eg hcmp (holdsK_own hown) (hown.lt g rfl).2 (by simp; omega) (fun x y h1 h2 => by rw [ltOf_cmpC] at h1 h2; exact bef_total h1 h2)
  rw [ltOf_cmpC] at h
  rw [show l.toArray.size = n by simpa using hl] at h
  refine h.mono ?_
  rintro e w' ⟨rfl, m, os, rfl⟩
  have hd : (l.mergeSort fun x y => !bef y x).length = n := by rw [List.length_mergeSort, hl]
  have hs := own_sorted (m := m) (os := os) hown hd
  exact ⟨rfl, by simpa using hs.1, by simpa using hs.2⟩
theorem merge_sortU (l : List Cl) : dedU (l.mergeSort fun x y => !bef y x) = sortU l := by
  refine dedU_sortU ?_ (fun x => List.mem_mergeSort)
  have h := List.pairwise_mergeSort (le := fun x y => !bef y x)
    (fun a b c h1 h2 => by
      simp only [Bool.not_eq_true'] at *
      rw [bef_not] at *
      omega)
    (fun a b => by
      simp only [Bool.or_eq_true, Bool.not_eq_true']
      cases h : bef b a with
      | false => exact .inl rfl
      | true => exact .inr (bef_asym h)) l
  exact h.imp fun h => by simpa using h

set_option maxHeartbeats 1000000 in
set_option maxRecDepth 100000 in
theorem iSort (B n cap b off : Nat) (l : List Cl) (w : World) (hn : n ≤ 1048576) (hb : b < w.heap.size) (hl : l.length = n)
    (hc : ∀ k, k < n → w.cell? ⟨b, off + k * 2, none⟩ = some (.int .i64 (l.getD k (0, 0)).1) ∧ w.cell? ⟨b, off + k * 2 + 1, none⟩ = some (.int .i64 (l.getD k (0, 0)).2)) :
    Calls Tryz.prog 110 #[.slice (some ⟨b, off, none⟩) n cap] w fun e w' => ∃ v, e = .returned v ∧ Own w (sortU l) v w' := by
  obtain ⟨i0, hi, hz0, hz1, hz2⟩ := info_parts info_cell
  have hclone := AnyE.slices_Clone Tryz.cloneCells i0 (.agg #[.int .i64 0, .int .i64 0]) 2 16 hi hz0 hz1 hz2 rfl (by omega) sizeOf_cell b off n cap (cvs l) w (by rw [cvs_length, hl]) (by unfold maxLen; omega) (by omega)
    (fun j u hj => by
      have hjl : j < n * 2 := by
        have := (List.getElem?_eq_some_iff.1 hj).1
        rw [cvs_length, hl] at this
        exact this
      have hcc := hc (j / 2) (by omega)
      have hg := cvs_get l (j / 2) (by omega)
      rcases Nat.mod_two_eq_zero_or_one j with h2 | h2
      · have e4 : j / 2 * 2 = j := by omega
        rw [e4] at hg hcc
        rw [hcc.1, ← hg.1, hj]
      · have e4 : j / 2 * 2 + 1 = j := by omega
        have e5 : off + j / 2 * 2 + 1 = off + j := by omega
        rw [e4] at hg
        rw [e5] at hcc
        rw [hcc.2, ← hg.2, hj])
    (cvs_oneCell _)
  change Calls Tryz.prog 119 _ _ _ at hclone
  have HM := Lib.hid (merge_sortU l)
  clear hc
  go_enter Tryz.func110, Tryz.ntmps110
  go_wp2_with fail
  refine hclone.mono ?_
  rintro e w1 ⟨v, rfl, hown, hnn, hb1⟩
  obtain ⟨g, cc, rfl⟩ : ∃ g cc, v = .slice (some ⟨g, 0, none⟩) n cc := by
    rcases hown.2 with ⟨rfl, _⟩ | ⟨g, cc, cur, rfl, _⟩
    · exact absurd rfl hnn
    · exact ⟨g, cc, rfl⟩
  have hgl := hown.lt g rfl
  have hown1 : w1.ownsRow w.heap.size 53 2 (.slice (some ⟨g, 0, none⟩) n cc) n (cvs l) := hown
  clear hclone hnn hown
  go_wp2_with fail
  refine (iSortFunc w.heap.size n g cc l w1 (by omega) hown1).mono ?_
  rintro e w2 ⟨rfl, hown2, hg2⟩
  have hb2 := hb1.grown hg2 hb1.size (fun k hk => by cases hk; exact hgl.1)
  clear hown1 hg2
  go_wp2_with fail
  refine (iCompact w.heap.size n g cc _ w2 (by omega) hb2.size hown2).mono ?_
  rintro e w3 ⟨k, rfl, hk, hown3, hb3⟩
  rw [HM.out] at hk hown3
  have HO := Lib.hid (show Own w (sortU l) (.slice (some ⟨g, 0, none⟩) k cc) w3 from ⟨by rw [← hk]; exact hown3, hb2.trans hb3⟩)
  clear hown3 hk
  go_wp2
  go_ret
  exact ⟨_, rfl, HO.out⟩

end Go.Proofs.YtghpljoccclmkaaGreat
