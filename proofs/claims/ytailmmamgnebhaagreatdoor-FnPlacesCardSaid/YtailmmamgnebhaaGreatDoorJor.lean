/-
  A slice of shapes put in order by the library's slices.SortFunc: what the call gives.
-/
import Derived.Test.YtailmmamgnebhaaGreatDoorQt
import Derived.Test.YtailmmamgnebhaaGreatDoorShelf
namespace Go.Proofs.YtailmmamgnebhaaGreatDoor
open Go.RowKit Go.Sort

/-! ### The row before and behind the sort -/
theorem holds_row {w : World} {B n g cap : Nat} {t : TypeId} {α : Type} [Inhabited α] (enc : α → Value) {d : List α} (h : w.ownsRow B t 1 (.slice (some ⟨g, 0, none⟩) n cap) n (d.map enc)) : Holds enc w g 0 d.toArray := by
  intro j hj
  have hl : d.length = n := by have := h.1; rw [List.length_map] at this; omega
  have hj2 : j < d.length := by simpa using hj
  have hc := h.cellAt j (by omega)
  have hf := h.frozenAt j
  rw [Nat.zero_add]
  refine ⟨?_, hf⟩
  rw [hc]
  simp [hj2]
theorem row_sorted {w : World} {B n g cap m : Nat} {t : TypeId} {α : Type} [Inhabited α] (enc : α → Value) {xs : List Value} {d : List α} {os : Array Obj} (h : w.ownsRow B t 1 (.slice (some ⟨g, 0, none⟩) n cap) n xs) (hd : d.length = n) :
    (sortWorld enc w g 0 m d.toArray os).ownsRow B t 1 (.slice (some ⟨g, 0, none⟩) n cap) n (d.map enc) ∧ w.grownBy (sortWorld enc w g 0 m d.toArray os) (some g) := by
  rcases h.2 with ⟨e, _⟩ | ⟨g', cap', cur, e, hb, hg, h1, h2, h3, h4⟩
  · cases e
  · injection e with e1 e2 e3
    injection e1 with e1
    injection e1 with e1 _
    subst e1 e3
    have hgl : g < w.heap.size := (Array.getElem?_eq_some_iff.1 hg).1
    have hheap : (sortWorld enc w g 0 m d.toArray os).heap[g]? = some (.cells (putCells enc 0 d.toArray cur) t (0, 0)) := by
      unfold sortWorld
      rw [heap_grow_old _ _ (by simp [putRow, mapBlock, Sort.ahead]; exact hgl)]
      simp [putRow, mapBlock, Sort.ahead, Array.getElem?_modify, hg, onCells]
    refine ⟨⟨by rw [List.length_map, hd]; omega, .inr ⟨g, cap, _, rfl, hb, hheap, h1, h2, by simp [putCells, h3], ?_⟩⟩, rfl, rfl, rfl, ?_, ?_⟩
    · apply List.ext_getElem?
      intro j
      by_cases hj : j < n * 1
      · rw [List.getElem?_take_of_lt hj, Array.getElem?_toList]
        have hjc : j < cur.size := by rw [h3]; omega
        have hjd : j < d.length := by omega
        simp [putCells, hjc, hjd]
      · rw [List.getElem?_take_eq_none (by omega), List.getElem?_eq_none (by rw [List.length_map]; omega)]
    · unfold sortWorld
      simp [putRow, mapBlock, Sort.ahead]
    · intro k hk hne
      unfold sortWorld
      rw [heap_grow_old _ _ (by simp [putRow, mapBlock, Sort.ahead]; exact hk)]
      have : g ≠ k := fun e => hne (by rw [e])
      simp [putRow, mapBlock, Sort.ahead, Array.getElem?_modify, this]

def cfE (es : List Ent) (x y : Nat) : Int := cmpS (kE (es.getD x dE)) (kE (es.getD y dE))
def encE (es : List Ent) (x : Nat) : Value := ev (es.getD x dE)
theorem ltOf_cfE (es : List Ent) (x y : Nat) : ltOf (cfE es) x y = ltS (kE (es.getD x dE)) (kE (es.getD y dE)) := rfl
theorem cfE_swo (es : List Ent) : SWO (ltOf (cfE es)) := by
  refine ⟨fun x => ?_, fun x y z h k => ?_, fun x y z h k => ?_⟩
  · rw [ltOf_cfE]; exact ordS.irr _
  · rw [ltOf_cfE] at *; exact ordS.trans h k
  · rw [ltOf_cfE] at *
    generalize kE (es.getD x dE) = a at *
    generalize kE (es.getD y dE) = b at *
    generalize kE (es.getD z dE) = c at *
    cases h1 : ltS a c with
    | false => rfl
    | true =>
      cases h2 : ltS b a with
      | true => have := ordS.trans h2 h1; rw [k] at this; cases this
      | false =>
        have e := ordS.total h h2
        rw [e] at h1
        rw [h1] at k
        cases k
theorem range_ents (es : List Ent) : (List.range es.length).map (fun i => es.getD i dE) = es := by
  apply List.ext_getElem?
  intro i
  by_cases hi : i < es.length
  · simp [List.getD, hi]
  · rw [List.getElem?_eq_none (by simp; omega), List.getElem?_eq_none (by omega)]
theorem ent_cells {B : Nat} {w : World} {es : List Ent} (h : EachS B w es) (hs : SmallS es) (x : Nat) : CellsAt w.heap.size w (some ⟨(es.getD x dE).1, 0, none⟩) (es.getD x dE).2.2.length (es.getD x dE).2.2 ∧ (es.getD x dE).2.2.length ≤ 4194304 := by
  by_cases hx : x < es.length
  · exact ⟨h.cells hs (ent_mem hx), (hs _ (ent_mem hx)).1⟩
  · have e : es.getD x dE = dE := by simp [List.getD, List.getElem?_eq_none (show es.length ≤ x by omega)]
    rw [e]
    exact ⟨⟨rfl, fun c hc => (by cases hc), fun h0 => absurd h0 (Nat.lt_irrefl 0)⟩, Nat.zero_le _⟩

theorem iSortS (B n g cap : Nat) (es : List Ent) (w : World) (hn : n ≤ 4194304) (hl : es.length = n) (hown : OwnS B w (.slice (some ⟨g, 0, none⟩) n cap) es) (hsm : SmallS es) :
    Calls Tryz.prog 114 #[.slice (some ⟨g, 0, none⟩) n cap, .func (.func 115) #[] #[]] w fun e w' => e = .returned (.tuple #[]) ∧ ∃ fs : List Ent, fs.Perm es ∧ (fs.Pairwise fun a b => ltS (kE b) (kE a) = false) ∧ OwnS B w' (.slice (some ⟨g, 0, none⟩) n cap) fs ∧ w.grownBy w' (some g) := by
  have hrow : w.ownsRow B 27 1 (.slice (some ⟨g, 0, none⟩) n cap) n (es.map ev) := by have := hown.row; rwa [hl] at this
  have hrow2 : w.ownsRow B 27 1 (.slice (some ⟨g, 0, none⟩) n cap) n ((List.range n).map (encE es)) := by
    have e : (List.range n).map (encE es) = es.map ev := by
      rw [← hl]
      conv => rhs; rw [← range_ents es]
      rw [List.map_map]
      rfl
    rw [e]
    exact hrow
  have hoff : OffS g es := fun e he h2 => hown.off e he (by rw [h2]; rfl)
  have eg : ∀ args w, (callFunc 115 args).run Tryz.prog w = .ok (.enter 115 args) w := enters_of Tryz.func115 (by kernel_rfl) rfl
  have hcmp : CmpLays1 Tryz.prog 115 #[] (encE es) (cfE es) g 0 (List.range n).toArray.size w := fun m os dk hdk x y => by
    have hdk2 : dk.toList.length = n := by simpa using hdk
    have hg := (row_sorted (m := m) (os := os) (encE es) (d := dk.toList) hrow hdk2).2
    have hE := hown.each.by hg hoff
    have hx := ent_cells hE hsm x
    have hy := ent_cells hE hsm y
    exact (iCmpShp _ _ _ (es.getD x dE).2.1 (es.getD y dE).2.1 _ _ _ _ _ hx.2 hy.2 hx.1 hy.1 (Nat.le_refl _)).mono fun e w' ⟨he, hgr⟩ => ⟨he, hgr.out⟩
  have h := Any.slices_SortFunc Tryz.sortShps (encE es) (fun x => ev_one _) (cfE es) (cfE_swo es) 115 #[] g 0 cap (List.range n).toArray w eg hcmp (holds_row (encE es) hrow2) (hrow.lt g rfl).2 (by simp; omega)
  rw [show (List.range n).toArray.size = n by simp] at h
  refine h.mono ?_
  rintro e w' ⟨rfl, d', m, os, hp, hs, rfl⟩
  obtain ⟨hp1, _, hp3⟩ := hp
  have hd' : d'.toList.length = n := by simpa using hp1
  have hperm : d'.toList.Perm (List.range n) := by
    have e1 : d'.extract 0 n = d' := by
      rw [show n = d'.size by simpa using hd'.symm]
      exact Array.extract_size
    have e2 : (List.range n).toArray.extract 0 n = (List.range n).toArray := by
      conv => lhs; rw [show n = (List.range n).toArray.size by simp]
      simp
    rw [e1, e2] at hp3
    simpa using hp3
  have hfs : (d'.toList.map fun i => es.getD i dE).Perm es := by
    have := hperm.map fun i => es.getD i dE
    rwa [← hl, range_ents] at this
  have hso := row_sorted (m := m) (os := os) (encE es) (d := d'.toList) hrow hd'
  have hev : d'.toList.map (encE es) = (d'.toList.map fun i => es.getD i dE).map ev := by rw [List.map_map]; rfl
  refine ⟨rfl, d'.toList.map fun i => es.getD i dE, hfs, ?_, ⟨?_, (hown.each.by hso.2 hoff).sub fun e he => hfs.mem_iff.1 he, ?_, fun e he => hown.off e (hfs.mem_iff.1 he)⟩, hso.2⟩
  · rw [List.pairwise_map, List.pairwise_iff_getElem]
    intro i j hi hj hij
    have := hs i j (Nat.zero_le _) hij (by omega)
    rw [ltOf_cfE] at this
    simp only [Array.getElem_toList]
    rwa [getElem!_pos _ _ (by simpa using hj), getElem!_pos _ _ (by simpa using hi)] at this
  · rw [← hev, List.length_map, hd']
    exact hso.1
  · exact hown.apart.perm hfs.symm (fun h => fun e => h e.symm)

end Go.Proofs.YtailmmamgnebhaaGreatDoor
