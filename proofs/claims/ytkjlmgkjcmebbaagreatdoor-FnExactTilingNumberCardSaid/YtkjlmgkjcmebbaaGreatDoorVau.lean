/-
  Shapes compared, in the program: what the call gives, and that memory only grows.
  A slice of shapes put in order by the library's slices.SortFunc: what the call gives.
-/
import Derived.Test.YtkjlmgkjcmebbaaGreatDoorVaj
import Derived.Test.YtkjlmgkjcmebbaaGreatDoorVaa
import Derived.BigQuiet
import Derived.Shelf.Abstract
import Derived.Test.YtkjlmgkjcmebbaaGreatDoorJcf
import Derived.Test.YtkjlmgkjcmebbaaGreatDoorShelf
namespace Go.Proofs.YtkjlmgkjcmebbaaGreatDoor

section
open Go.RowKit

/-- Memory has grown, choices have been drawn, and nothing else. -/
structure Grn (w w' : World) : Prop where
  below : Below w.heap.size w w'
  drawn : w.drawn ≤ w'.drawn
theorem Grn.refl (w : World) : Grn w w := ⟨Below.refl _ _, Nat.le_refl _⟩
theorem Grn.trans {a b c : World} (h : Grn a b) (k : Grn b c) : Grn a c := ⟨h.below.trans (k.below.mono h.below.size), Nat.le_trans h.drawn k.drawn⟩
theorem Grn.alloc {a b : World} (h : Grn a b) (o : Obj) : Grn a (b.alloc o) := ⟨h.below.alloc h.below.size _, h.drawn⟩
theorem Grn.drew {a b : World} (h : Grn a b) : Grn a b.drew := ⟨h.below.drew, Nat.le_succ_of_le h.drawn⟩
theorem Grn.drewN {a b : World} (h : Grn a b) (q : Nat) : Grn a (b.drewN q) := ⟨below_drewn h.below q, Nat.le_trans h.drawn (Nat.le_add_right _ _)⟩
theorem Grn.grow {a b : World} (h : Grn a b) (os : Array Obj) : Grn a (Go.Sort.grow b os) := h.trans ⟨⟨rfl, rfl, rfl, by simp, fun k hk => Go.Sort.heap_grow_old _ _ hk⟩, Nat.le_refl _⟩
theorem Grn.of {a b : World} (h : Grn a b) {c : World} (k : ∃ q os', c = Go.Sort.grow (b.drewN q) os') : Grn a c := by
  obtain ⟨q, os, rfl⟩ := k
  exact (h.drewN q).grow os
theorem Grn.out {w w' : World} (h : Grn w w') : ∃ q os', w' = Go.Sort.grow (w.drewN q) os' := by
  refine ⟨w'.drawn - w.drawn, w'.heap.extract w.heap.size w'.heap.size, ?_⟩
  obtain ⟨⟨h1, h2, h3, h4, h5⟩, h6⟩ := h
  obtain ⟨hp, tp, dr, os, ou⟩ := w
  obtain ⟨hp', tp', dr', os', ou'⟩ := w'
  dsimp only at *
  subst h1 h2 h3
  unfold Go.Sort.grow World.drewN
  dsimp only
  congr 1
  · apply Array.ext_getElem?
    intro i
    by_cases hi : i < hp.size
    · rw [h5 i hi, Array.getElem?_append_left hi]
    · rw [Array.getElem?_append_right (by omega), Array.getElem?_extract]
      by_cases h7 : i < hp'.size
      · rw [if_pos (by omega)]
        congr 1
        omega
      · rw [if_neg (by omega), Array.getElem?_eq_none (by omega)]
  · omega

theorem cmpI_cases (x y : Int) : (x < y ∧ cmpI x y = -1) ∨ (x = y ∧ cmpI x y = 0) ∨ (y < x ∧ cmpI x y = 1) := by
  unfold cmpI
  by_cases h : x < y
  · exact .inl ⟨h, if_pos h⟩
  · rw [if_neg h]
    by_cases h2 : y < x
    · exact .inr (.inr ⟨h2, if_pos h2⟩)
    · exact .inr (.inl ⟨by omega, if_neg h2⟩)
theorem cmpC_cases (a b : Cl) : (bef a b = true ∧ cmpC a b = -1) ∨ (a = b ∧ cmpC a b = 0) ∨ (bef a b = false ∧ a ≠ b ∧ cmpC a b = 1) := by
  obtain ⟨x, y⟩ := a
  obtain ⟨u, v⟩ := b
  unfold cmpC
  dsimp only
  rcases cmpI_cases y v with ⟨h, e⟩ | ⟨h, e⟩ | ⟨h, e⟩ <;> rw [e] <;> rcases cmpI_cases x u with ⟨k, e2⟩ | ⟨k, e2⟩ | ⟨k, e2⟩ <;> rw [e2]
  · exact .inl ⟨by simp [bef, h], rfl⟩
  · exact .inl ⟨by simp [bef, h], rfl⟩
  · exact .inl ⟨by simp [bef, h], rfl⟩
  · exact .inl ⟨by simp [bef, h, k], rfl⟩
  · exact .inr (.inl ⟨by rw [h, k], rfl⟩)
  · refine .inr (.inr ⟨by rw [bef_not]; dsimp only; omega, fun e => by injection e; omega, rfl⟩)
  · refine .inr (.inr ⟨by rw [bef_not]; dsimp only; omega, fun e => by injection e; omega, rfl⟩)
  · refine .inr (.inr ⟨by rw [bef_not]; dsimp only; omega, fun e => by injection e; omega, rfl⟩)
  · refine .inr (.inr ⟨by rw [bef_not]; dsimp only; omega, fun e => by injection e; omega, rfl⟩)

/-- Two lists of cells compared cell by cell; the shorter one is less. -/
def cmpF : List Cl → List Cl → Int
  | a :: l, b :: r => if cmpC a b = 0 then cmpF l r else cmpC a b
  | [], _ :: _ => -1
  | _ :: _, [] => 1
  | [], [] => 0
theorem cmpF_cmpL : ∀ l r : List Cl, l.length = r.length → cmpF l r = cmpL l r
  | [], [], _ => by unfold cmpF cmpL; rfl
  | a :: l, b :: r, h => by
    unfold cmpF cmpL
    rcases cmpC_cases a b with ⟨h1, e⟩ | ⟨h1, e⟩ | ⟨h1, h2, e⟩
    · rw [e, if_neg (by decide), if_neg (fun k => by subst k; rw [bef_irr] at h1; cases h1), if_pos h1]
    · rw [e, if_pos rfl, if_pos h1]
      exact cmpF_cmpL l r (by simpa using h)
    · rw [e, if_neg (by decide), if_neg h2, if_neg (by rw [h1]; simp)]
theorem cmpS_or (l r : List Cl) : orI (cmpI l.length r.length) (cmpF l r) = cmpS l r := by
  unfold cmpS orI
  rcases cmpI_cases l.length r.length with ⟨h, e⟩ | ⟨h, e⟩ | ⟨h, e⟩
  · rw [e, if_neg (by decide), if_pos (by omega)]
  · rw [e, if_pos rfl, if_neg (by omega), if_neg (by omega)]
    exact cmpF_cmpL l r (by omega)
  · rw [e, if_neg (by decide), if_neg (by omega), if_pos (by omega)]
theorem drop_at {l : List Cl} {k : Nat} (h : k < l.length) : l.drop k = l.getD k (0, 0) :: l.drop (k + 1) := by rw [List.drop_eq_getElem_cons h]; simp [List.getD, h]
theorem cmpF_step {l r : List Cl} {k : Nat} (hl : k < l.length) (hr : k < r.length) : cmpF (l.drop k) (r.drop k) = if cmpC (l.getD k (0, 0)) (r.getD k (0, 0)) = 0 then cmpF (l.drop (k + 1)) (r.drop (k + 1)) else cmpC (l.getD k (0, 0)) (r.getD k (0, 0)) := by
  rw [drop_at hl, drop_at hr]
  conv => lhs; unfold cmpF

theorem ret_Ik {a b : Int} (h : a = b) : Ending.returned (.int .i64 a) = .returned (.int .i64 b) := by rw [h]

set_option maxHeartbeats 2000000 in
set_option maxRecDepth 100000 in
theorem iCmpFn (B n m c1 c2 : Nat) (a1 a2 : Option Addr) (l r : List Cl) (w : World) (hn : n ≤ 4194304) (hm : m ≤ 4194304) (h1 : CellsAt B w a1 n l) (h2 : CellsAt B w a2 m r) (hB : B ≤ w.heap.size) :
    Calls Tryz.prog 164 #[.slice a1 n c1, .slice a2 m c2, .func (.func 142) #[] #[]] w fun e w' => e = .returned (.int .i64 (cmpF l r)) ∧ Grn w w' := by
  have eg : ∀ args w, (callFunc 142 args).run Tryz.prog w = .ok (.enter 142 args) w := enters_of Tryz.func142 (by kernel_rfl) rfl
  have H1 := Lib.hid h1
  have H2 := Lib.hid h2
  have HZ : Hid (cmpF l r = cmpF (l.drop 0) (r.drop 0)) := rfl
  clear h1 h2
  go_enter Tryz.func164, Tryz.ntmps164
  go_wp2
  go_loopw [13] (fun i wr => ∃ k : Nat, k ≤ n ∧ k ≤ m ∧ i = .int .i64 k ∧ Hid (cmpF l r = cmpF (l.drop k) (r.drop k)) ∧ Grn w wr) (fun i _ => n - (intOf i).toNat)
  case atStart => exact ⟨0, by omega, by omega, rfl, HZ, Grn.refl _⟩
  case round =>
    obtain ⟨k, hk, hkm, rfl, hsame, hg⟩ := hrel
    have hb := hg.below
    have hsz := hb.size
    have HG := Lib.hid hg
    clear hg
    by_cases hlt : k < n
    · obtain ⟨b1, o1, rfl, hb1, hc1⟩ := H1.out.2.2 (by omega)
      obtain ⟨x, y, hxy⟩ : ∃ x y, l.getD k (0, 0) = (x, y) := ⟨_, _, rfl⟩
      have p1 := (hb.cell (p := ⟨b1, o1 + k * 2, none⟩) (Nat.lt_of_lt_of_le hb1 hB)).trans (hc1 k hlt).1
      have p2 := (hb.cell (p := ⟨b1, o1 + k * 2 + 1, none⟩) (Nat.lt_of_lt_of_le hb1 hB)).trans (hc1 k hlt).2
      rw [hxy] at p1 p2
      have hbl1 : b1 < wr.heap.size := by omega
      have hk0 : (0 : Int) ≤ (k : Int) := by omega
      have hk1 : (k : Int) < (n : Int) := by omega
      by_cases hlm : k < m
      · obtain ⟨b2, o2, rfl, hb2, hc2⟩ := H2.out.2.2 (by omega)
        obtain ⟨u, v, huv⟩ : ∃ u v, r.getD k (0, 0) = (u, v) := ⟨_, _, rfl⟩
        have q1 := (hb.cell (p := ⟨b2, o2 + k * 2, none⟩) (Nat.lt_of_lt_of_le hb2 hB)).trans (hc2 k hlm).1
        have q2 := (hb.cell (p := ⟨b2, o2 + k * 2 + 1, none⟩) (Nat.lt_of_lt_of_le hb2 hB)).trans (hc2 k hlm).2
        rw [huv] at q1 q2
        have hbl2 : b2 < wr.heap.size := by omega
        have hk2 : (k : Int) < (m : Int) := by omega
        have hst := cmpF_step (l := l) (r := r) (k := k) (by rw [H1.out.1]; exact hlt) (by rw [H2.out.1]; exact hlm)
        rw [hxy, huv] at hst
        have hcmp : ∀ w', Calls Tryz.prog 142 #[.agg #[.int .i64 x, .int .i64 y], .agg #[.int .i64 u, .int .i64 v]] w' _ := fun w' => iCompare x y u v w'
        generalize hr : cmpC (x, y) (u, v) = c at hst hcmp
        have HST := Lib.hid (hsame.out.trans hst)
        clear hst hsame hxy huv hr hc1 hc2 hb
        by_cases h0 : c = 0
        · subst h0
          rw [if_pos rfl] at HST
          go_wp2_with (go_at_fn 142; refine (hcmp _).mono ?_; rintro e w' ⟨rfl, hgr, _⟩)
          have HN := Lib.hid (((HG.out.alloc _).alloc _).of hgr)
          clear hgr
          go_roundw
          case rel => exact ⟨k + 1, by omega, by omega, by go_num, HST, HN.out⟩
          case measure => simp [intOf]; omega
        · have hc0 : (c != 0) = true := by rw [bne_iff_ne]; exact h0
          rw [if_neg h0] at HST
          go_wp2_with (go_at_fn 142; refine (hcmp _).mono ?_; rintro e w' ⟨rfl, hgr, _⟩)
          have HN := Lib.hid (((HG.out.alloc _).alloc _).of hgr)
          clear hgr
          go_ret
          exact ⟨ret_Ik HST.out.symm, HN.out⟩
      · obtain rfl : k = m := by omega
        have e : cmpF (l.drop k) (r.drop k) = 1 := by
          have e2 : r.drop k = [] := List.drop_eq_nil_of_le (by rw [H2.out.1]; exact Nat.le_refl _)
          rw [drop_at (by rw [H1.out.1]; exact hlt), e2]
          unfold cmpF
          rfl
        have HE := Lib.hid (hsame.out.trans e)
        clear e hsame hxy hc1 hb
        go_wp2
        go_ret
        exact ⟨ret_Ik HE.out.symm, HG.out.alloc _⟩
    · obtain rfl : k = n := by omega
      have e1 : l.drop k = [] := List.drop_eq_nil_of_le (by rw [H1.out.1]; exact Nat.le_refl _)
      by_cases hlm : k < m
      · have e : cmpF (l.drop k) (r.drop k) = -1 := by
          rw [e1, drop_at (by rw [H2.out.1]; exact hlm)]
          unfold cmpF
          rfl
        have HE := Lib.hid (hsame.out.trans e)
        clear e e1 hsame hb
        go_wp2
        go_ret
        exact ⟨ret_Ik HE.out.symm, HG.out⟩
      · have e : cmpF (l.drop k) (r.drop k) = 0 := by
          have e2 : r.drop k = [] := List.drop_eq_nil_of_le (by rw [H2.out.1]; omega)
          rw [e1, e2]
          unfold cmpF
          rfl
        have HE := Lib.hid (hsame.out.trans e)
        clear e e1 hsame hb
        go_wp2
        go_ret
        exact ⟨ret_Ik HE.out.symm, HG.out⟩

set_option maxHeartbeats 1000000 in
set_option maxRecDepth 100000 in
theorem iCmpShp (B n m c1 c2 : Nat) (a1 a2 : Option Addr) (l r : List Cl) (w : World) (hn : n ≤ 4194304) (hm : m ≤ 4194304) (h1 : CellsAt B w a1 n l) (h2 : CellsAt B w a2 m r) (hB : B ≤ w.heap.size) :
    Calls Tryz.prog 146 #[.slice a1 n c1, .slice a2 m c2] w fun e w' => e = .returned (.int .i64 (cmpS l r)) ∧ Grn w w' := by
  have hs := cmpS_or l r
  rw [h1.1, h2.1] at hs
  rw [← hs]
  have hf : ∀ w', Grn w w' → Calls Tryz.prog 164 #[.slice a1 n c1, .slice a2 m c2, .func (.func 142) #[] #[]] w' _ := fun w' hg => iCmpFn B n m c1 c2 a1 a2 l r w' hn hm (h1.on (hg.below.mono hB)) (h2.on (hg.below.mono hB)) (Nat.le_trans hB hg.below.size)
  have hc : ∀ w', Calls Tryz.prog 159 #[.int .i64 n, .int .i64 m] w' _ := fun w' => iCmpI n m w'
  generalize cmpI (n : Int) (m : Int) = p at hc ⊢
  generalize cmpF l r = q at hf ⊢
  have hg0 := Grn.refl w
  have HF := Lib.hid hf
  clear hs h1 h2 hf
  go_enter Tryz.func146, Tryz.ntmps146
  go_wp2_with fail
  refine (hc _).mono ?_
  rintro e w' ⟨rfl, rfl⟩
  go_wp2_with fail
  refine (HF.out _ hg0).mono ?_
  rintro e w1 ⟨rfl, hg1⟩
  go_wp2_with fail
  refine (iOr _ p q _ (World.cell?_alloc_at _ _ _ _ rfl) (World.cell?_alloc_at _ _ _ _ rfl)).mono ?_
  rintro e w' ⟨rfl, rfl⟩
  go_wp2
  go_ret
  exact ⟨rfl, hg1.alloc _⟩
end

section
open Go.RowKit Go.Sort

/-! ### The row before and behind the sort -/
theorem holds_row {w : World} {B n g cap : Nat} {t : TypeId} {α : Type} [Inhabited α] (enc : α → Value) {d : List α} (h : w.ownsRow B t 1 (.slice (some ⟨g, 0, none⟩) n cap) n (d.map enc)) : Holds enc w g 0 d.toArray := by
  intro j hj
  have hl : d.length = n := by have := h.1; rw [List.length_map] at this; omega
  have hj2 : j < d.length := by simpa using hj
  have hc := h.cellAt j (by omega)
  have hf := h.frozenAt j
  rw [Nat.zero_add]
  refine ⟨?_, hf⟩
  rw [hc]
  simp [hj2]
theorem row_sorted {w : World} {B n g cap m : Nat} {t : TypeId} {α : Type} [Inhabited α] (enc : α → Value) {xs : List Value} {d : List α} {os : Array Obj} (h : w.ownsRow B t 1 (.slice (some ⟨g, 0, none⟩) n cap) n xs) (hd : d.length = n) :
    (sortWorld enc w g 0 m d.toArray os).ownsRow B t 1 (.slice (some ⟨g, 0, none⟩) n cap) n (d.map enc) ∧ w.grownBy (sortWorld enc w g 0 m d.toArray os) (some g) := by
  rcases h.2 with ⟨e, _⟩ | ⟨g', cap', cur, e, hb, hg, h1, h2, h3, h4⟩
  · cases e
  · injection e with e1 e2 e3
    injection e1 with e1
    injection e1 with e1 _
    subst e1 e3
    have hgl : g < w.heap.size := (Array.getElem?_eq_some_iff.1 hg).1
    have hheap : (sortWorld enc w g 0 m d.toArray os).heap[g]? = some (.cells (putCells enc 0 d.toArray cur) t (0, 0)) := by
      unfold sortWorld
      rw [heap_grow_old _ _ (by simp [putRow, mapBlock, Sort.ahead]; exact hgl)]
      simp [putRow, mapBlock, Sort.ahead, Array.getElem?_modify, hg, onCells]
    refine ⟨⟨by rw [List.length_map, hd]; omega, .inr ⟨g, cap, _, rfl, hb, hheap, h1, h2, by simp [putCells, h3], ?_⟩⟩, rfl, rfl, rfl, ?_, ?_⟩
    · apply List.ext_getElem?
      intro j
      by_cases hj : j < n * 1
      · rw [List.getElem?_take_of_lt hj, Array.getElem?_toList]
        have hjc : j < cur.size := by rw [h3]; omega
        have hjd : j < d.length := by omega
        simp [putCells, hjc, hjd]
      · rw [List.getElem?_take_eq_none (by omega), List.getElem?_eq_none (by rw [List.length_map]; omega)]
    · unfold sortWorld
      simp [putRow, mapBlock, Sort.ahead]
    · intro k hk hne
      unfold sortWorld
      rw [heap_grow_old _ _ (by simp [putRow, mapBlock, Sort.ahead]; exact hk)]
      have : g ≠ k := fun e => hne (by rw [e])
      simp [putRow, mapBlock, Sort.ahead, Array.getElem?_modify, this]

def cfE (es : List Ent) (x y : Nat) : Int := cmpS (kE (es.getD x dE)) (kE (es.getD y dE))
def encE (es : List Ent) (x : Nat) : Value := ev (es.getD x dE)
theorem ltOf_cfE (es : List Ent) (x y : Nat) : ltOf (cfE es) x y = ltS (kE (es.getD x dE)) (kE (es.getD y dE)) := rfl
theorem cfE_swo (es : List Ent) : SWO (ltOf (cfE es)) := by
  refine ⟨fun x => ?_, fun x y z h k => ?_, fun x y z h k => ?_⟩
  · rw [ltOf_cfE]; exact ordS.irr _
  · rw [ltOf_cfE] at *; exact ordS.trans h k
  · rw [ltOf_cfE] at *
    generalize kE (es.getD x dE) = a at *
    generalize kE (es.getD y dE) = b at *
    generalize kE (es.getD z dE) = c at *
    cases h1 : ltS a c with
    | false => rfl
    | true =>
      cases h2 : ltS b a with
      | true => have := ordS.trans h2 h1; rw [k] at this; cases this
      | false =>
        have e := ordS.total h h2
        rw [e] at h1
        rw [h1] at k
        cases k
theorem range_ents (es : List Ent) : (List.range es.length).map (fun i => es.getD i dE) = es := by
  apply List.ext_getElem?
  intro i
  by_cases hi : i < es.length
  · simp [List.getD, hi]
  · rw [List.getElem?_eq_none (by simp; omega), List.getElem?_eq_none (by omega)]
theorem ent_cells {B : Nat} {w : World} {es : List Ent} (h : EachS B w es) (hs : SmallS es) (x : Nat) : CellsAt w.heap.size w (some ⟨(es.getD x dE).1, 0, none⟩) (es.getD x dE).2.2.length (es.getD x dE).2.2 ∧ (es.getD x dE).2.2.length ≤ 4194304 := by
  by_cases hx : x < es.length
  · exact ⟨h.cells hs (ent_mem hx), (hs _ (ent_mem hx)).1⟩
  · have e : es.getD x dE = dE := by simp [List.getD, List.getElem?_eq_none (show es.length ≤ x by omega)]
    rw [e]
    exact ⟨⟨rfl, fun c hc => (by cases hc), fun h0 => absurd h0 (Nat.lt_irrefl 0)⟩, Nat.zero_le _⟩

theorem iSortS (B n g cap : Nat) (es : List Ent) (w : World) (hn : n ≤ 4194304) (hl : es.length = n) (hown : OwnS B w (.slice (some ⟨g, 0, none⟩) n cap) es) (hsm : SmallS es) :
    Calls Tryz.prog 145 #[.slice (some ⟨g, 0, none⟩) n cap, .func (.func 146) #[] #[]] w fun e w' => e = .returned (.tuple #[]) ∧ ∃ fs : List Ent, fs.Perm es ∧ (fs.Pairwise fun a b => ltS (kE b) (kE a) = false) ∧ OwnS B w' (.slice (some ⟨g, 0, none⟩) n cap) fs ∧ w.grownBy w' (some g) := by
  have hrow : w.ownsRow B 95 1 (.slice (some ⟨g, 0, none⟩) n cap) n (es.map ev) := by have := hown.row; rwa [hl] at this
  have hrow2 : w.ownsRow B 95 1 (.slice (some ⟨g, 0, none⟩) n cap) n ((List.range n).map (encE es)) := by
    have e : (List.range n).map (encE es) = es.map ev := by
      rw [← hl]
      conv => rhs; rw [← range_ents es]
      rw [List.map_map]
      rfl
    rw [e]
    exact hrow
  have hoff : OffS g es := fun e he h2 => hown.off e he (by rw [h2]; rfl)
  have eg : ∀ args w, (callFunc 146 args).run Tryz.prog w = .ok (.enter 146 args) w := enters_of Tryz.func146 (by kernel_rfl) rfl
  have hcmp : CmpLays1 Tryz.prog 146 #[] (encE es) (cfE es) g 0 (List.range n).toArray.size w := fun m os dk hdk x y => by
    have hdk2 : dk.toList.length = n := by simpa using hdk
    have hg := (row_sorted (m := m) (os := os) (encE es) (d := dk.toList) hrow hdk2).2
    have hE := hown.each.by hg hoff
    have hx := ent_cells hE hsm x
    have hy := ent_cells hE hsm y
    exact (iCmpShp _ _ _ (es.getD x dE).2.1 (es.getD y dE).2.1 _ _ _ _ _ hx.2 hy.2 hx.1 hy.1 (Nat.le_refl _)).mono fun e w' ⟨he, hgr⟩ => ⟨he, hgr.out⟩
  have h := Any.slices_SortFunc Tryz.sortShps (encE es) (fun x => ev_one _) (cfE es) (cfE_swo es) 146 #[] g 0 cap (List.range n).toArray w eg hcmp (holds_row (encE es) hrow2) (hrow.lt g rfl).2 (by simp; omega)
  rw [show (List.range n).toArray.size = n by simp] at h
  refine h.mono ?_
  rintro e w' ⟨rfl, d', m, os, hp, hs, rfl⟩
  obtain ⟨hp1, _, hp3⟩ := hp
  have hd' : d'.toList.length = n := by simpa using hp1
  have hperm : d'.toList.Perm (List.range n) := by
    have e1 : d'.extract 0 n = d' := by
      rw [show n = d'.size by simpa using hd'.symm]
      exact Array.extract_size
    have e2 : (List.range n).toArray.extract 0 n = (List.range n).toArray := by
      conv => lhs; rw [show n = (List.range n).toArray.size by simp]
      simp
    rw [e1, e2] at hp3
    simpa using hp3
  have hfs : (d'.toList.map fun i => es.getD i dE).Perm es := by
    have := hperm.map fun i => es.getD i dE
    rwa [← hl, range_ents] at this
  have hso := row_sorted (m := m) (os := os) (encE es) (d := d'.toList) hrow hd'
  have hev : d'.toList.map (encE es) = (d'.toList.map fun i => es.getD i dE).map ev := by rw [List.map_map]; rfl
  refine ⟨rfl, d'.toList.map fun i => es.getD i dE, hfs, ?_, ⟨?_, (hown.each.by hso.2 hoff).sub fun e he => hfs.mem_iff.1 he, ?_, fun e he => hown.off e (hfs.mem_iff.1 he)⟩, hso.2⟩
  · rw [List.pairwise_map, List.pairwise_iff_getElem]
    intro i j hi hj hij
    have := hs i j (Nat.zero_le _) hij (by omega)
    rw [ltOf_cfE] at this
    simp only [Array.getElem_toList]
    rwa [getElem!_pos _ _ (by simpa using hj), getElem!_pos _ _ (by simpa using hi)] at this
  · rw [← hev, List.length_map, hd']
    exact hso.1
  · exact hown.apart.perm hfs.symm (fun h => fun e => h e.symm)
end

end Go.Proofs.YtkjlmgkjcmebbaaGreatDoor
