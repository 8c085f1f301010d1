/-
  Shapes compared, in the program: what the call gives, and that memory only grows.
  A slice of shapes put in order by the library's slices.SortFunc: what the call gives.
  Where an orientation's cells can lie, in the program; numbers put in order, each once: what the calls give.
-/
import Derived.Test.YtkjlmgkjcmebbaaGreatDoorWag
import Derived.Test.YtkjlmgkjcmebbaaGreatDoorWad
import Derived.BigQuiet
import Derived.Shelf.Abstract
import Derived.Test.YtkjlmgkjcmebbaaGreatDoorWas
import Derived.Test.YtkjlmgkjcmebbaaGreatDoorShelf
import Derived.Test.YtkjlmgkjcmebbaaGreatDoorWak
import Derived.Test.YtkjlmgkjcmebbaaGreatDoorWah
import Derived.Laws.AppendOwnNone
namespace Go.Proofs.YtkjlmgkjcmebbaaGreatDoor

section
open Go.RowKit

/-- Memory has grown, choices have been drawn, and nothing else. -/
structure Grn (w w' : World) : Prop where
  below : Below w.heap.size w w'
  drawn : w.drawn ≤ w'.drawn
theorem Grn.refl (w : World) : Grn w w := ⟨Below.refl _ _, Nat.le_refl _⟩
theorem Grn.trans {a b c : World} (h : Grn a b) (k : Grn b c) : Grn a c := ⟨h.below.trans (k.below.mono h.below.size), Nat.le_trans h.drawn k.drawn⟩
theorem Grn.alloc {a b : World} (h : Grn a b) (o : Obj) : Grn a (b.alloc o) := ⟨h.below.alloc h.below.size _, h.drawn⟩
theorem Grn.drew {a b : World} (h : Grn a b) : Grn a b.drew := ⟨h.below.drew, Nat.le_succ_of_le h.drawn⟩
theorem Grn.drewN {a b : World} (h : Grn a b) (q : Nat) : Grn a (b.drewN q) := ⟨below_drewn h.below q, Nat.le_trans h.drawn (Nat.le_add_right _ _)⟩
theorem Grn.grow {a b : World} (h : Grn a b) (os : Array Obj) : Grn a (Go.Sort.grow b os) := h.trans ⟨⟨rfl, rfl, rfl, by simp, fun k hk => Go.Sort.heap_grow_old _ _ hk⟩, Nat.le_refl _⟩
theorem Grn.of {a b : World} (h : Grn a b) {c : World} (k : ∃ q os', c = Go.Sort.grow (b.drewN q) os') : Grn a c := by
  obtain ⟨q, os, rfl⟩ := k
  exact (h.drewN q).grow os
theorem Grn.out {w w' : World} (h : Grn w w') : ∃ q os', w' = Go.Sort.grow (w.drewN q) os' := by
  refine ⟨w'.drawn - w.drawn, w'.heap.extract w.heap.size w'.heap.size, ?_⟩
  obtain ⟨⟨h1, h2, h3, h4, h5⟩, h6⟩ := h
  obtain ⟨hp, tp, dr, os, ou⟩ := w
  obtain ⟨hp', tp', dr', os', ou'⟩ := w'
  dsimp only at *
  subst h1 h2 h3
  unfold Go.Sort.grow World.drewN
  dsimp only
  congr 1
  · apply Array.ext_getElem?
    intro i
    by_cases hi : i < hp.size
    · rw [h5 i hi, Array.getElem?_append_left hi]
    · rw [Array.getElem?_append_right (by omega), Array.getElem?_extract]
      by_cases h7 : i < hp'.size
      · rw [if_pos (by omega)]
        congr 1
        omega
      · rw [if_neg (by omega), Array.getElem?_eq_none (by omega)]
  · omega

theorem cmpI_cases (x y : Int) : (x < y ∧ cmpI x y = -1) ∨ (x = y ∧ cmpI x y = 0) ∨ (y < x ∧ cmpI x y = 1) := by
  unfold cmpI
  by_cases h : x < y
  · exact .inl ⟨h, if_pos h⟩
  · rw [if_neg h]
    by_cases h2 : y < x
    · exact .inr (.inr ⟨h2, if_pos h2⟩)
    · exact .inr (.inl ⟨by omega, if_neg h2⟩)
theorem cmpC_cases (a b : Cl) : (bef a b = true ∧ cmpC a b = -1) ∨ (a = b ∧ cmpC a b = 0) ∨ (bef a b = false ∧ a ≠ b ∧ cmpC a b = 1) := by
  obtain ⟨x, y⟩ := a
  obtain ⟨u, v⟩ := b
  unfold cmpC
  dsimp only
  rcases cmpI_cases y v with ⟨h, e⟩ | ⟨h, e⟩ | ⟨h, e⟩ <;> rw [e] <;> rcases cmpI_cases x u with ⟨k, e2⟩ | ⟨k, e2⟩ | ⟨k, e2⟩ <;> rw [e2]
  · exact .inl ⟨by simp [bef, h], rfl⟩
  · exact .inl ⟨by simp [bef, h], rfl⟩
  · exact .inl ⟨by simp [bef, h], rfl⟩
  · exact .inl ⟨by simp [bef, h, k], rfl⟩
  · exact .inr (.inl ⟨by rw [h, k], rfl⟩)
  · refine .inr (.inr ⟨by rw [bef_not]; dsimp only; omega, fun e => by injection e; omega, rfl⟩)
  · refine .inr (.inr ⟨by rw [bef_not]; dsimp only; omega, fun e => by injection e; omega, rfl⟩)
  · refine .inr (.inr ⟨by rw [bef_not]; dsimp only; omega, fun e => by injection e; omega, rfl⟩)
  · refine .inr (.inr ⟨by rw [bef_not]; dsimp only; omega, fun e => by injection e; omega, rfl⟩)

/-- Two lists of cells compared cell by cell; the shorter one is less. -/
def cmpF : List Cl → List Cl → Int
  | a :: l, b :: r => if cmpC a b = 0 then cmpF l r else cmpC a b
  | [], _ :: _ => -1
  | _ :: _, [] => 1
  | [], [] => 0
theorem cmpF_cmpL : ∀ l r : List Cl, l.length = r.length → cmpF l r = cmpL l r
  | [], [], _ => by unfold cmpF cmpL; rfl
  | a :: l, b :: r, h => by
    unfold cmpF cmpL
    rcases cmpC_cases a b with ⟨h1, e⟩ | ⟨h1, e⟩ | ⟨h1, h2, e⟩
    · rw [e, if_neg (by decide), if_neg (fun k => by subst k; rw [bef_irr] at h1; cases h1), if_pos h1]
    · rw [e, if_pos rfl, if_pos h1]
      exact cmpF_cmpL l r (by simpa using h)
    · rw [e, if_neg (by decide), if_neg h2, if_neg (by rw [h1]; simp)]
theorem cmpS_or (l r : List Cl) : orI (cmpI l.length r.length) (cmpF l r) = cmpS l r := by
  unfold cmpS orI
  rcases cmpI_cases l.length r.length with ⟨h, e⟩ | ⟨h, e⟩ | ⟨h, e⟩
  · rw [e, if_neg (by decide), if_pos (by omega)]
  · rw [e, if_pos rfl, if_neg (by omega), if_neg (by omega)]
    exact cmpF_cmpL l r (by omega)
  · rw [e, if_neg (by decide), if_neg (by omega), if_pos (by omega)]
theorem drop_at {l : List Cl} {k : Nat} (h : k < l.length) : l.drop k = l.getD k (0, 0) :: l.drop (k + 1) := by rw [List.drop_eq_getElem_cons h]; simp [List.getD, h]
theorem cmpF_step {l r : List Cl} {k : Nat} (hl : k < l.length) (hr : k < r.length) : cmpF (l.drop k) (r.drop k) = if cmpC (l.getD k (0, 0)) (r.getD k (0, 0)) = 0 then cmpF (l.drop (k + 1)) (r.drop (k + 1)) else cmpC (l.getD k (0, 0)) (r.getD k (0, 0)) := by
  rw [drop_at hl, drop_at hr]
  conv => lhs; unfold cmpF

theorem ret_Ik {a b : Int} (h : a = b) : Ending.returned (.int .i64 a) = .returned (.int .i64 b) := by rw [h]

set_option maxHeartbeats 2000000 in
set_option maxRecDepth 100000 in
theorem iCmpFn (B n m c1 c2 : Nat) (a1 a2 : Option Addr) (l r : List Cl) (w : World) (hn : n ≤ 4194304) (hm : m ≤ 4194304) (h1 : CellsAt B w a1 n l) (h2 : CellsAt B w a2 m r) (hB : B ≤ w.heap.size) :
    Calls Tryz.prog 164 #[.slice a1 n c1, .slice a2 m c2, .func (.func 142) #[] #[]] w fun e w' => e = .returned (.int .i64 (cmpF l r)) ∧ Grn w w' := by
  have eg : ∀ args w, (callFunc 142 args).run Tryz.prog w = .ok (.enter 142 args) w := enters_of Tryz.func142 (by kernel_rfl) rfl
  have H1 := Lib.hid h1
  have H2 := Lib.hid h2
  have HZ : Hid (cmpF l r = cmpF (l.drop 0) (r.drop 0)) := rfl
  clear h1 h2
  go_enter Tryz.func164, Tryz.ntmps164
  go_wp2
  go_loopw [13] (fun i wr => ∃ k : Nat, k ≤ n ∧ k ≤ m ∧ i = .int .i64 k ∧ Hid (cmpF l r = cmpF (l.drop k) (r.drop k)) ∧ Grn w wr) (fun i _ => n - (intOf i).toNat)
  case atStart => exact ⟨0, by omega, by omega, rfl, HZ, Grn.refl _⟩
  case round =>
    obtain ⟨k, hk, hkm, rfl, hsame, hg⟩ := hrel
    have hb := hg.below
    have hsz := hb.size
    have HG := Lib.hid hg
    clear hg
    by_cases hlt : k < n
    · obtain ⟨b1, o1, rfl, hb1, hc1⟩ := H1.out.2.2 (by omega)
      obtain ⟨x, y, hxy⟩ : ∃ x y, l.getD k (0, 0) = (x, y) := ⟨_, _, rfl⟩
      have p1 := (hb.cell (p := ⟨b1, o1 + k * 2, none⟩) (Nat.lt_of_lt_of_le hb1 hB)).trans (hc1 k hlt).1
      have p2 := (hb.cell (p := ⟨b1, o1 + k * 2 + 1, none⟩) (Nat.lt_of_lt_of_le hb1 hB)).trans (hc1 k hlt).2
      rw [hxy] at p1 p2
      have hbl1 : b1 < wr.heap.size := by omega
      have hk0 : (0 : Int) ≤ (k : Int) := by omega
      have hk1 : (k : Int) < (n : Int) := by omega
      by_cases hlm : k < m
      · obtain ⟨b2, o2, rfl, hb2, hc2⟩ := H2.out.2.2 (by omega)
        obtain ⟨u, v, huv⟩ : ∃ u v, r.getD k (0, 0) = (u, v) := ⟨_, _, rfl⟩
        have q1 := (hb.cell (p := ⟨b2, o2 + k * 2, none⟩) (Nat.lt_of_lt_of_le hb2 hB)).trans (hc2 k hlm).1
        have q2 := (hb.cell (p := ⟨b2, o2 + k * 2 + 1, none⟩) (Nat.lt_of_lt_of_le hb2 hB)).trans (hc2 k hlm).2
        rw [huv] at q1 q2
        have hbl2 : b2 < wr.heap.size := by omega
        have hk2 : (k : Int) < (m : Int) := by omega
        have hst := cmpF_step (l := l) (r := r) (k := k) (by rw [H1.out.1]; exact hlt) (by rw [H2.out.1]; exact hlm)
        rw [hxy, huv] at hst
        have hcmp : ∀ w', Calls Tryz.prog 142 #[.agg #[.int .i64 x, .int .i64 y], .agg #[.int .i64 u, .int .i64 v]] w' _ := fun w' => iCompare x y u v w'
        generalize hr : cmpC (x, y) (u, v) = c at hst hcmp
        have HST := Lib.hid (hsame.out.trans hst)
        clear hst hsame hxy huv hr hc1 hc2 hb
        by_cases h0 : c = 0
        · subst h0
          rw [if_pos rfl] at HST
          go_wp2_with (go_at_fn 142; refine (hcmp _).mono ?_; rintro e w' ⟨rfl, hgr, _⟩)
          have HN := Lib.hid (((HG.out.alloc _).alloc _).of hgr)
          clear hgr
          go_roundw
          case rel => exact ⟨k + 1, by omega, by omega, by go_num, HST, HN.out⟩
          case measure => simp [intOf]; omega
        · have hc0 : (c != 0) = true := by rw [bne_iff_ne]; exact h0
          rw [if_neg h0] at HST
          go_wp2_with (go_at_fn 142; refine (hcmp _).mono ?_; rintro e w' ⟨rfl, hgr, _⟩)
          have HN := Lib.hid (((HG.out.alloc _).alloc _).of hgr)
          clear hgr
          go_ret
          exact ⟨ret_Ik HST.out.symm, HN.out⟩
      · obtain rfl : k = m := by omega
        have e : cmpF (l.drop k) (r.drop k) = 1 := by
          have e2 : r.drop k = [] := List.drop_eq_nil_of_le (by rw [H2.out.1]; exact Nat.le_refl _)
          rw [drop_at (by rw [H1.out.1]; exact hlt), e2]
          unfold cmpF
          rfl
        have HE := Lib.hid (hsame.out.trans e)
        clear e hsame hxy hc1 hb
        go_wp2
        go_ret
        exact ⟨ret_Ik HE.out.symm, HG.out.alloc _⟩
    · obtain rfl : k = n := by omega
      have e1 : l.drop k = [] := List.drop_eq_nil_of_le (by rw [H1.out.1]; exact Nat.le_refl _)
      by_cases hlm : k < m
      · have e : cmpF (l.drop k) (r.drop k) = -1 := by
          rw [e1, drop_at (by rw [H2.out.1]; exact hlm)]
          unfold cmpF
          rfl
        have HE := Lib.hid (hsame.out.trans e)
        clear e e1 hsame hb
        go_wp2
        go_ret
        exact ⟨ret_Ik HE.out.symm, HG.out⟩
      · have e : cmpF (l.drop k) (r.drop k) = 0 := by
          have e2 : r.drop k = [] := List.drop_eq_nil_of_le (by rw [H2.out.1]; omega)
          rw [e1, e2]
          unfold cmpF
          rfl
        have HE := Lib.hid (hsame.out.trans e)
        clear e e1 hsame hb
        go_wp2
        go_ret
        exact ⟨ret_Ik HE.out.symm, HG.out⟩

set_option maxHeartbeats 1000000 in
set_option maxRecDepth 100000 in
theorem iCmpShp (B n m c1 c2 : Nat) (a1 a2 : Option Addr) (l r : List Cl) (w : World) (hn : n ≤ 4194304) (hm : m ≤ 4194304) (h1 : CellsAt B w a1 n l) (h2 : CellsAt B w a2 m r) (hB : B ≤ w.heap.size) :
    Calls Tryz.prog 146 #[.slice a1 n c1, .slice a2 m c2] w fun e w' => e = .returned (.int .i64 (cmpS l r)) ∧ Grn w w' := by
  have hs := cmpS_or l r
  rw [h1.1, h2.1] at hs
  rw [← hs]
  have hf : ∀ w', Grn w w' → Calls Tryz.prog 164 #[.slice a1 n c1, .slice a2 m c2, .func (.func 142) #[] #[]] w' _ := fun w' hg => iCmpFn B n m c1 c2 a1 a2 l r w' hn hm (h1.on (hg.below.mono hB)) (h2.on (hg.below.mono hB)) (Nat.le_trans hB hg.below.size)
  have hc : ∀ w', Calls Tryz.prog 159 #[.int .i64 n, .int .i64 m] w' _ := fun w' => iCmpI n m w'
  generalize cmpI (n : Int) (m : Int) = p at hc ⊢
  generalize cmpF l r = q at hf ⊢
  have hg0 := Grn.refl w
  have HF := Lib.hid hf
  clear hs h1 h2 hf
  go_enter Tryz.func146, Tryz.ntmps146
  go_wp2_with fail
  refine (hc _).mono ?_
  rintro e w' ⟨rfl, rfl⟩
  go_wp2_with fail
  refine (HF.out _ hg0).mono ?_
  rintro e w1 ⟨rfl, hg1⟩
  go_wp2_with fail
  refine (iOr _ p q _ (World.cell?_alloc_at _ _ _ _ rfl) (World.cell?_alloc_at _ _ _ _ rfl)).mono ?_
  rintro e w' ⟨rfl, rfl⟩
  go_wp2
  go_ret
  exact ⟨rfl, hg1.alloc _⟩
end

section
open Go.RowKit Go.Sort

/-! ### The row before and behind the sort -/
theorem holds_row {w : World} {B n g cap : Nat} {t : TypeId} {α : Type} [Inhabited α] (enc : α → Value) {d : List α} (h : w.ownsRow B t 1 (.slice (some ⟨g, 0, none⟩) n cap) n (d.map enc)) : Holds enc w g 0 d.toArray := by
  intro j hj
  have hl : d.length = n := by have := h.1; rw [List.length_map] at this; omega
  have hj2 : j < d.length := by simpa using hj
  have hc := h.cellAt j (by omega)
  have hf := h.frozenAt j
  rw [Nat.zero_add]
  refine ⟨?_, hf⟩
  rw [hc]
  simp [hj2]
theorem row_sorted {w : World} {B n g cap m : Nat} {t : TypeId} {α : Type} [Inhabited α] (enc : α → Value) {xs : List Value} {d : List α} {os : Array Obj} (h : w.ownsRow B t 1 (.slice (some ⟨g, 0, none⟩) n cap) n xs) (hd : d.length = n) :
    (sortWorld enc w g 0 m d.toArray os).ownsRow B t 1 (.slice (some ⟨g, 0, none⟩) n cap) n (d.map enc) ∧ w.grownBy (sortWorld enc w g 0 m d.toArray os) (some g) := by
  rcases h.2 with ⟨e, _⟩ | ⟨g', cap', cur, e, hb, hg, h1, h2, h3, h4⟩
  · cases e
  · injection e with e1 e2 e3
    injection e1 with e1
    injection e1 with e1 _
    subst e1 e3
    have hgl : g < w.heap.size := (Array.getElem?_eq_some_iff.1 hg).1
    have hheap : (sortWorld enc w g 0 m d.toArray os).heap[g]? = some (.cells (putCells enc 0 d.toArray cur) t (0, 0)) := by
      unfold sortWorld
      rw [heap_grow_old _ _ (by simp [putRow, mapBlock, Sort.ahead]; exact hgl)]
      simp [putRow, mapBlock, Sort.ahead, Array.getElem?_modify, hg, onCells]
    refine ⟨⟨by rw [List.length_map, hd]; omega, .inr ⟨g, cap, _, rfl, hb, hheap, h1, h2, by simp [putCells, h3], ?_⟩⟩, rfl, rfl, rfl, ?_, ?_⟩
    · apply List.ext_getElem?
      intro j
      by_cases hj : j < n * 1
      · rw [List.getElem?_take_of_lt hj, Array.getElem?_toList]
        have hjc : j < cur.size := by rw [h3]; omega
        have hjd : j < d.length := by omega
        simp [putCells, hjc, hjd]
      · rw [List.getElem?_take_eq_none (by omega), List.getElem?_eq_none (by rw [List.length_map]; omega)]
    · unfold sortWorld
      simp [putRow, mapBlock, Sort.ahead]
    · intro k hk hne
      unfold sortWorld
      rw [heap_grow_old _ _ (by simp [putRow, mapBlock, Sort.ahead]; exact hk)]
      have : g ≠ k := fun e => hne (by rw [e])
      simp [putRow, mapBlock, Sort.ahead, Array.getElem?_modify, this]

def cfE (es : List Ent) (x y : Nat) : Int := cmpS (kE (es.getD x dE)) (kE (es.getD y dE))
def encE (es : List Ent) (x : Nat) : Value := ev (es.getD x dE)
theorem ltOf_cfE (es : List Ent) (x y : Nat) : ltOf (cfE es) x y = ltS (kE (es.getD x dE)) (kE (es.getD y dE)) := rfl
theorem cfE_swo (es : List Ent) : SWO (ltOf (cfE es)) := by
  refine ⟨fun x => ?_, fun x y z h k => ?_, fun x y z h k => ?_⟩
  · rw [ltOf_cfE]; exact ordS.irr _
  · rw [ltOf_cfE] at *; exact ordS.trans h k
  · rw [ltOf_cfE] at *
    generalize kE (es.getD x dE) = a at *
    generalize kE (es.getD y dE) = b at *
    generalize kE (es.getD z dE) = c at *
    cases h1 : ltS a c with
    | false => rfl
    | true =>
      cases h2 : ltS b a with
      | true => have := ordS.trans h2 h1; rw [k] at this; cases this
      | false =>
        have e := ordS.total h h2
        rw [e] at h1
        rw [h1] at k
        cases k
theorem range_ents (es : List Ent) : (List.range es.length).map (fun i => es.getD i dE) = es := by
  apply List.ext_getElem?
  intro i
  by_cases hi : i < es.length
  · simp [List.getD, hi]
  · rw [List.getElem?_eq_none (by simp; omega), List.getElem?_eq_none (by omega)]
theorem ent_cells {B : Nat} {w : World} {es : List Ent} (h : EachS B w es) (hs : SmallS es) (x : Nat) : CellsAt w.heap.size w (some ⟨(es.getD x dE).1, 0, none⟩) (es.getD x dE).2.2.length (es.getD x dE).2.2 ∧ (es.getD x dE).2.2.length ≤ 4194304 := by
  by_cases hx : x < es.length
  · exact ⟨h.cells hs (ent_mem hx), (hs _ (ent_mem hx)).1⟩
  · have e : es.getD x dE = dE := by simp [List.getD, List.getElem?_eq_none (show es.length ≤ x by omega)]
    rw [e]
    exact ⟨⟨rfl, fun c hc => (by cases hc), fun h0 => absurd h0 (Nat.lt_irrefl 0)⟩, Nat.zero_le _⟩

theorem iSortS (B n g cap : Nat) (es : List Ent) (w : World) (hn : n ≤ 4194304) (hl : es.length = n) (hown : OwnS B w (.slice (some ⟨g, 0, none⟩) n cap) es) (hsm : SmallS es) :
    Calls Tryz.prog 145 #[.slice (some ⟨g, 0, none⟩) n cap, .func (.func 146) #[] #[]] w fun e w' => e = .returned (.tuple #[]) ∧ ∃ fs : List Ent, fs.Perm es ∧ (fs.Pairwise fun a b => ltS (kE b) (kE a) = false) ∧ OwnS B w' (.slice (some ⟨g, 0, none⟩) n cap) fs ∧ w.grownBy w' (some g) := by
  have hrow : w.ownsRow B 95 1 (.slice (some ⟨g, 0, none⟩) n cap) n (es.map ev) := by have := hown.row; rwa [hl] at this
  have hrow2 : w.ownsRow B 95 1 (.slice (some ⟨g, 0, none⟩) n cap) n ((List.range n).map (encE es)) := by
    have e : (List.range n).map (encE es) = es.map ev := by
      rw [← hl]
      conv => rhs; rw [← range_ents es]
      rw [List.map_map]
      rfl
    rw [e]
    exact hrow
  have hoff : OffS g es := fun e he h2 => hown.off e he (by rw [h2]; rfl)
  have eg : ∀ args w, (callFunc 146 args).run Tryz.prog w = .ok (.enter 146 args) w := enters_of Tryz.func146 (by kernel_rfl) rfl
  have hcmp : CmpLays1 Tryz.prog 146 #[] (encE es) (cfE es) g 0 (List.range n).toArray.size w := fun m os dk hdk x y => by
    have hdk2 : dk.toList.length = n := by simpa using hdk
    have hg := (row_sorted (m := m) (os := os) (encE es) (d := dk.toList) hrow hdk2).2
    have hE := hown.each.by hg hoff
    have hx := ent_cells hE hsm x
    have hy := ent_cells hE hsm y
    exact (iCmpShp _ _ _ (es.getD x dE).2.1 (es.getD y dE).2.1 _ _ _ _ _ hx.2 hy.2 hx.1 hy.1 (Nat.le_refl _)).mono fun e w' ⟨he, hgr⟩ => ⟨he, hgr.out⟩
  have h := Any.slices_SortFunc Tryz.sortShps (encE es) (fun x => ev_one _) (cfE es) (cfE_swo es) 146 #[] g 0 cap (List.range n).toArray w eg hcmp (holds_row (encE es) hrow2) (hrow.lt g rfl).2 (by simp; omega)
  rw [show (List.range n).toArray.size = n by simp] at h
  refine h.mono ?_
  rintro e w' ⟨rfl, d', m, os, hp, hs, rfl⟩
  obtain ⟨hp1, _, hp3⟩ := hp
  have hd' : d'.toList.length = n := by simpa using hp1
  have hperm : d'.toList.Perm (List.range n) := by
    have e1 : d'.extract 0 n = d' := by
      rw [show n = d'.size by simpa using hd'.symm]
      exact Array.extract_size
    have e2 : (List.range n).toArray.extract 0 n = (List.range n).toArray := by
      conv => lhs; rw [show n = (List.range n).toArray.size by simp]
      simp
    rw [e1, e2] at hp3
    simpa using hp3
  have hfs : (d'.toList.map fun i => es.getD i dE).Perm es := by
    have := hperm.map fun i => es.getD i dE
    rwa [← hl, range_ents] at this
  have hso := row_sorted (m := m) (os := os) (encE es) (d := d'.toList) hrow hd'
  have hev : d'.toList.map (encE es) = (d'.toList.map fun i => es.getD i dE).map ev := by rw [List.map_map]; rfl
  refine ⟨rfl, d'.toList.map fun i => es.getD i dE, hfs, ?_, ⟨?_, (hown.each.by hso.2 hoff).sub fun e he => hfs.mem_iff.1 he, ?_, fun e he => hown.off e (hfs.mem_iff.1 he)⟩, hso.2⟩
  · rw [List.pairwise_map, List.pairwise_iff_getElem]
    intro i j hi hj hij
    have := hs i j (Nat.zero_le _) hij (by omega)
    rw [ltOf_cfE] at this
    simp only [Array.getElem_toList]
    rwa [getElem!_pos _ _ (by simpa using hj), getElem!_pos _ _ (by simpa using hi)] at this
  · rw [← hev, List.length_map, hd']
    exact hso.1
  · exact hown.apart.perm hfs.symm (fun h => fun e => h e.symm)
end

section
open Go.RowKit Go.Sort

/-! ### Within the mask -/
theorem andN_zero {m k : Nat} (hm : m < 9223372036854775808) (hk : k < 9223372036854775808) : (bits .andNot .i64 (m : Int) (k : Int) == 0) = decide (m &&& k = m) := by
  have h1 : (BitVec.ofInt 64 (m : Int)).toNat = m := ofInt_i64 m hm
  have h2 : (BitVec.ofInt 64 (k : Int)).toNat = k := ofInt_i64 k hk
  have hx : (BitVec.ofInt 64 (m : Int) &&& ~~~(BitVec.ofInt 64 (k : Int))).toNat ≤ m := by
    rw [BitVec.toNat_and, h1]
    exact Nat.and_le_left
  have key : (BitVec.ofInt 64 (m : Int) &&& ~~~(BitVec.ofInt 64 (k : Int))).toNat = 0 ↔ m &&& k = m := by
    constructor
    · intro h
      apply Nat.eq_of_testBit_eq
      intro i
      rw [Nat.testBit_and]
      cases hb : m.testBit i with
      | false => rfl
      | true =>
        have hi : i < 64 := by
          apply Nat.lt_of_not_le
          intro hle
          have : m < 2 ^ i := Nat.lt_of_lt_of_le hm (Nat.le_trans (by decide : 9223372036854775808 ≤ 2 ^ 64) (Nat.pow_le_pow_right (by omega) hle))
          rw [Nat.testBit_lt_two_pow this] at hb
          cases hb
        have h3 : (BitVec.ofInt 64 (m : Int) &&& ~~~(BitVec.ofInt 64 (k : Int))).toNat.testBit i = false := by rw [h]; exact Nat.zero_testBit i
        rw [← BitVec.getLsbD, BitVec.getLsbD_and, BitVec.getLsbD_not] at h3
        have h4 : (BitVec.ofInt 64 (m : Int)).getLsbD i = true := by rw [BitVec.getLsbD, h1]; exact hb
        have h5 : (BitVec.ofInt 64 (k : Int)).getLsbD i = k.testBit i := by rw [BitVec.getLsbD, h2]
        rw [h4, h5] at h3
        simpa [hi] using h3
    · intro h
      apply Nat.eq_of_testBit_eq
      intro i
      rw [Nat.zero_testBit, ← BitVec.getLsbD, BitVec.getLsbD_and, BitVec.getLsbD_not]
      have h4 : (BitVec.ofInt 64 (m : Int)).getLsbD i = m.testBit i := by rw [BitVec.getLsbD, h1]
      have h5 : (BitVec.ofInt 64 (k : Int)).getLsbD i = k.testBit i := by rw [BitVec.getLsbD, h2]
      rw [h4, h5, ← h, Nat.testBit_and]
      cases m.testBit i <;> cases k.testBit i <;> simp
  have e : bits .andNot .i64 (m : Int) (k : Int) = (((BitVec.ofInt 64 (m : Int) &&& ~~~(BitVec.ofInt 64 (k : Int))).toNat : Nat) : Int) := by
    show IntKind.i64.wrap ((BitVec.ofInt 64 (m : Int) &&& ~~~(BitVec.ofInt 64 (k : Int))).toNat : Int) = _
    rw [IntKind.wrap_i64]
    omega
  rw [e]
  by_cases h : m &&& k = m
  · rw [key.2 h]
    simp [h]
  · have : ¬ (BitVec.ofInt 64 (m : Int) &&& ~~~(BitVec.ofInt 64 (k : Int))).toNat = 0 := fun h9 => h (key.1 h9)
    generalize (BitVec.ofInt 64 (m : Int) &&& ~~~(BitVec.ofInt 64 (k : Int))).toNat = z at this
    have h9 : ((z : Int) == 0) = false := by simpa using this
    rw [h9]
    simp [h]

/-! ### In order, each once -/
set_option maxHeartbeats 2000000 in
theorem iAsc (B : Nat) (v : Value) (L : List Int) (w : World) (hl : L.length ≤ 100000) (hown : w.ownsRow B 3 1 v L.length (iv L)) :
    Calls Tryz.prog 94 #[v] w fun e w' => ∃ v', e = .returned v' ∧ w'.ownsRow B 3 1 v' (ascI L).length (iv (ascI L)) ∧ Below B w w' := by
  have HO := Lib.hid hown
  rcases hown.2 with ⟨rfl, h0⟩ | ⟨g, cap, cur, rfl, hb, hg, _⟩
  · have : L = [] := List.eq_nil_of_length_eq_zero h0
    subst this
    clear hown
    go_enter Tryz.func94, Tryz.ntmps94
    go_wp2_with fail
    refine (Tryz.slices_Sort_int_none none 0 w).mono ?_
    rintro e w1 ⟨rfl, rfl⟩
    go_wp2_with fail
    refine (Tryz.slices_Compact_int_empty none 0 _).mono ?_
    rintro e w1 ⟨rfl, rfl⟩
    go_wp2
    go_ret
    exact ⟨_, rfl, HO.out, Below.refl _ _⟩
  · have hgl : g < w.heap.size := (Array.getElem?_eq_some_iff.1 hg).1
    have hcap := own_cap_m hown
    have h1 := Tryz.slices_Sort_int g 0 cap L w (holds_row (Value.int .i64) hown) hgl (by omega)
    obtain ⟨S, hS⟩ : ∃ S, (L.mergeSort fun x y => decide (x ≤ y)) = S := ⟨_, rfl⟩
    have HA := Lib.hid (show Lib.compact S = ascI L from by rw [← hS]; exact ascI_lib L)
    have hsl : S.length = L.length := by rw [← hS]; exact List.length_mergeSort L
    rw [hS] at h1
    clear hS
    have hrs := fun (q : Nat) (os : Array Obj) => row_sorted (m := q) (os := os) (Value.int .i64) hown hsl
    have hcl : (Lib.compact S).length ≤ S.length := by rw [HA.out, hsl]; exact ascI_len L
    have HRS := Lib.hid hrs
    have H1 := Lib.hid h1
    clear h1 hrs hown
    go_enter Tryz.func94, Tryz.ntmps94
    go_wp2_with fail
    refine H1.out.mono ?_
    rintro e w1 ⟨rfl, q, os, hw⟩
    have hr1 := HRS.out q os
    rw [show sortWorld (Value.int .i64) w g 0 q S.toArray os = w1 from hw.symm] at hr1
    clear hw
    have hr2 : w1.ownsRow B 3 1 (.slice (some ⟨g, 0, none⟩) S.length cap) S.length (S.map (Value.int .i64)) := by rw [hsl]; exact hr1.1
    have h2 := Tryz.slices_Compact_int g 0 cap S w1 (holds_row (Value.int .i64) hr2) (by omega) (by omega)
    have HRS2 := Lib.hid (fun (q : Nat) (d : List Int) (hd : d.length = S.length) => row_sorted (m := q) (os := #[]) (Value.int .i64) hr2 hd)
    have HG1 := Lib.hid hr1.2
    have H2 := Lib.hid h2
    rw [hsl] at H2
    clear h2 hr1 hr2
    go_wp2_with fail
    refine H2.out.mono ?_
    rintro e w2 ⟨rfl, q2, hw2⟩
    have hr3 := HRS2.out q2 (Lib.compact S ++ List.replicate (L.length - (Lib.compact S).length) 0) (by simp; omega)
    unfold sortWorld at hr3
    rw [grow_empty, ← hw2] at hr3
    have hr4 := row1_take (by rw [hsl] at hr3; exact hr3.1) (show (Lib.compact S).length ≤ L.length by omega)
    have e4 : ((Lib.compact S ++ List.replicate (L.length - (Lib.compact S).length) 0).map (Value.int .i64)).take (Lib.compact S).length = iv (Lib.compact S) := by
      rw [List.map_append, List.take_append_of_le_length (by simp), List.take_of_length_le (by simp)]
      rfl
    rw [e4] at hr4
    have HR4 := Lib.hid hr4
    have HB := Lib.hid (((Below.refl B w).grown HG1.out (by omega) (fun k hk => by cases hk; exact hb)).grown hr3.2 (by have := HG1.out.size; omega) (fun k hk => by cases hk; exact hb))
    rw [HA.out] at HR4
    clear hw2 hr3 hr4 e4
    go_wp2
    go_ret
    exact ⟨_, by rw [HA.out]; rfl, HR4.out, HB.out⟩

/-! ### The corner's mask, moved -/
theorem corner_bd {N : Nat} (hN : N ≤ 6) {o : List Cl} {p q : Nat} (hb : OrnB o p q) (k : Nat) : orB N (o.take k) < 2 ^ 50 := by
  refine orB_lt _ 0 (by decide) fun c hc => ?_
  have h1 := hb.all c (List.mem_of_mem_take hc)
  have := hb.w8
  have := hb.h8
  have h2 : c.2.toNat * N ≤ 7 * 6 := Nat.mul_le_mul (by omega) hN
  unfold bN
  omega
theorem moved_bd {N H : Nat} (hN : N ≤ 6) (hH : H ≤ 6) {o : List Cl} {p q x y : Nat} (hb : OrnB o p q) (hx : x + p ≤ N) (hy : y + q ≤ H) : orB N o * 2 ^ (y * N + x) < 68719476736 := by
  rw [← orB_move x y (fun c hc => by have := hb.all c hc; omega)]
  have h1 : orB N (moveC x y o) < 2 ^ (N * H) := by
    refine orB_lt _ 0 (Nat.pos_of_ne_zero (by simp)) fun d hd => ?_
    unfold moveC at hd
    obtain ⟨c, hc, rfl⟩ := List.mem_map.1 hd
    have := hb.all c hc
    exact bN_lt (by unfold inG; dsimp only; omega)
  have h2 := pow36 hN hH (Nat.le_refl H)
  rw [Nat.mul_comm H N] at h2
  omega

set_option maxHeartbeats 8000000 in
set_option maxRecDepth 100000 in
theorem iMoved (B n cap m2 cap2 N : Nat) (a a2 : Option Addr) (l : List Int) (o : List Cl) (w : World) (hn : n ≤ 4194304) (hm : m2 ≤ 4194304) (hr : Rg N n l) (ho : Orn o) (hc : IntsAt B w a n l) (hd : CellsAt B w a2 m2 o) (hB : B ≤ w.heap.size) :
    Calls Tryz.prog 120 #[.agg #[.int .i64 N, .slice a n cap], .slice a2 m2 cap2] w fun e w' => ∃ v, e = .returned v ∧ w'.ownsRow w.heap.size 3 1 v (mvO N n l o).length (iv (mvO N n l o)) ∧ Below w.heap.size w w' := by
  obtain ⟨i0, hi, hz0, hz1, hz2⟩ := info_parts info_int
  obtain ⟨p, q, hb⟩ := ho.box
  have H := Lib.hid hc
  have HD := Lib.hid hd
  have HR := Lib.hid hr
  have HP := Lib.hid hb
  have hlo := hd.1
  have HMO := Lib.hid (show mvO N n l o = mvY N n p q l o (n + 1 - q) from mvO_box hb)
  have hN6 := hr.w6
  have hn6 := hr.h6
  have hp1 := hb.w1
  have hp8 := hb.w8
  have hq1 := hb.h1
  have hq8 := hb.h8
  have HWH := Lib.hid (show _ ∧ _ from ⟨hb.wide, hb.high⟩)
  have HM := Lib.hid (maskR_lt N l)
  have hb0 := (Below.refl w.heap.size w).alloc (Nat.le_refl _) (.cells #[.int .i64 N, .slice a n cap] 26)
  have hbox0 := RgAt.new (w := w) N (.slice a n cap) rfl
  have hsz0 : (w.alloc (.cells #[.int .i64 N, .slice a n cap] 26)).heap.size = w.heap.size + 1 := by simp
  clear hc hd hr hb
  go_enter Tryz.func120, Tryz.ntmps120
  go_wp2_with fail
  generalize (w.alloc (.cells #[.int .i64 N, .slice a n cap] 26)) = W0 at *
  refine (iSize B m2 cap2 a2 o W0 hm (HD.out.on (hb0.mono hB)) (Nat.le_trans hB hb0.size)).mono ?_
  rintro e w1 ⟨rfl, hb1⟩
  rw [HWH.out.1, HWH.out.2]
  have hb01 := hb0.trans (hb1.mono hb0.size)
  have hbox1 := hbox0.on hb1 hbox0.lt
  have hs1 := hb1.size
  have c0 := hbox1.c0
  have c1 := hbox1.c1
  clear hb1 hb0 hbox0
  go_wp2_with fail
  refine (iMask B n cap a N l w1 hn (H.out.on (hb01.mono hB)) (Nat.le_trans hB hb01.size)).mono ?_
  rintro e W1 ⟨rfl, hb2⟩
  have HB := Lib.hid (hb01.trans (hb2.mono hb01.size))
  have hbox := hbox1.on hb2 hbox1.lt
  have hsz1 := hb2.size
  obtain ⟨M, hM⟩ : ∃ M, maskR N l = M := ⟨_, rfl⟩
  have HMK := Lib.hid hM
  rw [hM] at HM ⊢
  clear hb01 hb2 hbox1 c0 c1 hM
  have hB1 : w.heap.size + 1 ≤ W1.heap.size := by omega
  go_wp2
  go_loopw [8, 24] (fun v i wr => ∃ k m : Nat, k ≤ m2 ∧ i = .int .i64 k ∧ v = .int .i64 m ∧ Hid (m = orB N (o.take k)) ∧ Below (w.heap.size + 1) W1 wr) (fun _ i _ => m2 - (intOf i).toNat)
  case atStart => exact ⟨0, 0, by omega, rfl, rfl, rfl, Below.refl _ _⟩
  case round =>
    obtain ⟨k, m, hk, rfl, rfl, hmm, hb⟩ := hrel
    have hsz := hb.size
    have hbx := hbox.on hb (by omega)
    have hbw := HB.out.trans (hb.mono (by omega))
    by_cases hlt : k < m2
    · have hk1 : (k : Int) < (m2 : Int) := by omega
      have hk0 : (0 : Int) ≤ (k : Int) := by omega
      obtain ⟨b2, off2, rfl, hbB2, hcell2⟩ := HD.out.2.2 (by omega)
      obtain ⟨x, y, hxy⟩ : ∃ x y, o.getD k (0, 0) = (x, y) := ⟨_, _, rfl⟩
      have p0 := hcell2 k hlt
      rw [hxy] at p0
      have p1 := (hbw.cell (p := ⟨b2, off2 + k * 2, none⟩) (Nat.lt_of_lt_of_le hbB2 hB)).trans p0.1
      have p2 := (hbw.cell (p := ⟨b2, off2 + k * 2 + 1, none⟩) (Nat.lt_of_lt_of_le hbB2 hB)).trans p0.2
      have hall := HP.out.all _ (getD_mem (l := o) (j := k) (by omega))
      rw [hxy] at hall
      dsimp only at hall
      obtain ⟨u, rfl⟩ : ∃ u : Nat, x = u := ⟨x.toNat, by omega⟩
      obtain ⟨v, rfl⟩ : ∃ v : Nat, y = v := ⟨y.toNat, by omega⟩
      have hbn : bN N ((u : Int), (v : Int)) = v * N + u := bN_nat N u v
      obtain ⟨b, hbq⟩ : ∃ b : Nat, v * N + u = b := ⟨_, rfl⟩
      have hb49 : b ≤ 49 := by
        have : v * N ≤ 7 * 6 := Nat.mul_le_mul (by omega) hN6
        omega
      have HT := Lib.hid (orB_take (W := N) o (k := k) (by omega))
      rw [hxy, hbn, hbq] at HT
      have hcb := corner_bd hN6 HP.out k
      rw [← hmm.out] at hcb
      have hp2 : (2 : Nat) ^ b ≤ 2 ^ 50 := Nat.pow_le_pow_right (by omega) (by omega)
      have hor := i64_or_nat m (2 ^ b) (by omega) (by omega)
      have HMM := Lib.hid (show m ||| 2 ^ b = orB N (o.take (k + 1)) from by rw [HT.out, ← hmm.out])
      have hcb2 := corner_bd hN6 HP.out (k + 1)
      rw [← HMM.out] at hcb2
      have hszw := hbw.size
      obtain ⟨rb, hrb⟩ : ∃ rb, wr.heap.size = rb := ⟨_, rfl⟩
      have HC := Lib.hid (Two.new (w := wr) (u : Int) (v : Int) hrb)
      have HB1 := Lib.hid (hb.alloc (show w.heap.size + 1 ≤ wr.heap.size by omega) (.cells #[.int .i64 u, .int .i64 v] 86))
      have HBX := Lib.hid (hbx.alloc (.cells #[.int .i64 u, .int .i64 v] 86))
      have c0 := HBX.out.c0
      have d0 := HC.out.c0
      have d1 := HC.out.c1
      clear p0 hxy hcell2 hbx hbw hb hbn HT hmm
      go_wp2_with fail
      generalize (wr.alloc (.cells #[.int .i64 u, .int .i64 v] 86)) = w2 at *
      refine (iBitOf u v N b w2 hbq (by omega) (by omega) (by omega) hN6).mono ?_
      rintro e w4 ⟨rfl, hb4⟩
      have HB4 := Lib.hid (HB1.out.trans (hb4.mono (by have := HB1.out.size; omega)))
      clear hb4 c0 d0 d1 HC HBX hbq p1 p2
      generalize m ||| 2 ^ b = t at *
      generalize 2 ^ b = gg at *
      go_wp2
      go_roundw
      case rel => exact ⟨k + 1, t, by omega, by go_num, rfl, HMM.out, HB4.out⟩
      case measure => simp [intOf]; omega
    · obtain rfl : k = m2 := by omega
      have hco : m = orB N o := by rw [hmm.out, List.take_of_length_le (by omega)]
      have HCO := Lib.hid hco
      have hcb := corner_bd hN6 HP.out k
      rw [← hmm.out] at hcb
      clear hmm hlt hk hco
      have HBW := Lib.hid hbw
      have c0 := hbx.c0
      have c1 := hbx.c1
      have hbxW := hbx
      have hszW := hbw.size
      clear hbw hbx hbox
      have hsW : w.heap.size + 1 ≤ wr.heap.size := by omega
      clear HB hb hsz
      obtain ⟨cy, hcy⟩ : ∃ cy : Int, (n : Int) - (q : Int) + 1 = cy := ⟨_, rfl⟩
      obtain ⟨cx, hcx⟩ : ∃ cx : Int, (N : Int) - (p : Int) + 1 = cx := ⟨_, rfl⟩
      obtain ⟨Y, hY⟩ : ∃ Y, n + 1 - q = Y := ⟨_, rfl⟩
      obtain ⟨X, hX⟩ : ∃ X, N + 1 - p = X := ⟨_, rfl⟩
      have hY7 : Y ≤ 6 := by omega
      have hX7 : X ≤ 6 := by omega
      rw [hY] at HMO
      have HSY := Lib.hid (fun y => (show mvY N n p q l o (y + 1) = mvY N n p q l o y ++ mvX N n p q l o y (N + 1 - p) from rfl))
      rw [hX] at HSY
      have HXL := Lib.hid (fun y x => mvX_len N n p q l o y x)
      have HYL := Lib.hid (fun y => mvY_len N n p q l o y)
      rw [hX] at HYL
      generalize wr = w0 at *
      go_wp2
      go_loopw [11, 41] (fun v i wr => ∃ y m : Nat, y ≤ Y ∧ i = .int .i64 y ∧ Hid (m = (mvY N n p q l o y).length) ∧ Hid (wr.ownsRow (w.heap.size + 1) 3 1 v m (iv (mvY N n p q l o y))) ∧ Below (w.heap.size + 1) w0 wr) (fun _ i _ => Y - (intOf i).toNat)
      case atStart => exact ⟨0, 0, by omega, rfl, rfl, World.ownsRow_nil w0 _ _ _, Below.refl _ _⟩
      case round =>
        obtain ⟨y, mm, hy, rfl, hmm, hown, hb⟩ := hrel
        have hsz := hb.size
        clear c0 c1
        have hbx := hbxW.on hb (by omega)
        have c0 := hbx.c0
        by_cases hyt : y < Y
        · have hy1 : (y : Int) < cy := by omega
          have HSS := Lib.hid (HSY.out y)
          have hyl := HYL.out y
          have hyl2 : X * y ≤ 6 * 6 := Nat.mul_le_mul hX7 (by omega)
          obtain ⟨out1, hout1⟩ : ∃ r, mvY N n p q l o y = r := ⟨_, rfl⟩
          rw [hout1] at hmm hown HSS hyl
          clear hout1
          go_wp2
          clear c0 hbx
          go_loopw [11, 49] (fun v i wr => ∃ x m : Nat, x ≤ X ∧ i = .int .i64 x ∧ Hid (m = (out1 ++ mvX N n p q l o y x).length) ∧ Hid (wr.ownsRow (w.heap.size + 1) 3 1 v m (iv (out1 ++ mvX N n p q l o y x))) ∧ Below (w.heap.size + 1) w0 wr) (fun _ i _ => X - (intOf i).toNat)
          case atStart => exact ⟨0, mm, by omega, rfl, by rw [hmm.out]; simp [mvX, Hid], by rw [show mvX N n p q l o y 0 = [] from rfl, List.append_nil]; exact hown.out, hb⟩
          case round =>
            clear hown hb hsz hmm
            obtain ⟨x, mm, hx, rfl, hmm, hown, hb⟩ := hrel
            have hsz := hb.size
            have hbx := hbxW.on hb (by omega)
            have c0 := hbx.c0
            by_cases hxt : x < X
            · have hx1 : (x : Int) < cx := by omega
              have hmv := moved_bd hN6 hn6 HP.out (x := x) (y := y) (by omega) (by omega)
              rw [← HCO.out] at hmv
              have hxl := HXL.out y x
              have hml := hmm.out
              rw [List.length_append] at hml
              have hmm9 : mm ≤ 100 := by omega
              have hfit : fitN N n p q l o x y = decide (orB N o * 2 ^ (y * N + x) &&& maskR N l = orB N o * 2 ^ (y * N + x)) := by
                unfold fitN
                rw [decide_eq_true (show x + p ≤ N by omega), decide_eq_true (show y + q ≤ n by omega)]
                rfl
              rw [← HCO.out, HMK.out] at hfit
              have HYES := Lib.hid (fun h => mvX_yes (W := N) (H := n) (p := p) (q := q) (l := l) (o := o) (y := y) (x := x) h)
              have HNO := Lib.hid (fun h => mvX_no (W := N) (H := n) (p := p) (q := q) (l := l) (o := o) (y := y) (x := x) h)
              rw [← HCO.out] at HYES
              obtain ⟨s, hs⟩ : ∃ s : Nat, y * N = s := ⟨_, rfl⟩
              obtain ⟨b, hbb⟩ : ∃ b : Nat, y * N + x = b := ⟨_, rfl⟩
              obtain ⟨t, ht⟩ : ∃ t : Nat, m * 2 ^ (y * N + x) = t := ⟨_, rfl⟩
              have hmul : (y : Int) * (N : Int) = (s : Int) := by rw [← hs]; simp
              have hadd : (s : Int) + (x : Int) = (b : Int) := by omega
              have hb64 : b ≤ 41 := by
                have : y * N ≤ 5 * 6 := Nat.mul_le_mul (by omega) hN6
                omega
              have hshl : (m : Int) * (2 : Int) ^ b = (t : Int) := by rw [← ht, hbb]; simp
              have hand := andN_zero (m := t) (k := M) (by omega) (by have := HM.out; omega)
              rw [ht] at hmv hfit HYES
              have HFIT := Lib.hid hfit
              have HMM := Lib.hid hmm.out
              have hown9 := hown.out
              clear hs hbb ht hfit hmm hown hml hxl hbx
              cases hf : decide (t &&& M = t) with
              | true =>
                rw [hf] at hand HFIT
                have HX := Lib.hid (HYES.out HFIT.out)
                have HM1 := Lib.hid (show mm + 1 = (out1 ++ mvX N n p q l o y (x + 1)).length from by rw [HX.out, ← List.append_assoc, List.length_append, ← HMM.out]; rfl)
                clear hf
                go_wp2_with (first | (at_builtin; refine wpList_append_own _ rfl _ _ 24 rfl (w.heap.size + 1) 3 i0 (.int .i64 0) 1 8 Tryz.underlying24 hi hz0 hz1 hz2 rfl (by decide) _ _ _ rfl (hown9.alloc _) ⟨wr.heap.size, 0, none⟩ 1 1 [.int .i64 t] rfl rfl (liesV_block (t := 3) (fr := (0, 0)) (heap_alloc_new _ _)) (by simp [Value.oneCell']) ?c3 ?c4 ?c5 ?_) | go_in)
                case c3 => unfold maxLen; omega
                case c4 => omega
                case c5 => simp; omega
                intro v' w4 hown4 hgrow _
                rw [show iv (out1 ++ mvX N n p q l o y x) ++ [.int .i64 t] = iv (out1 ++ mvX N n p q l o y (x + 1)) from by rw [HX.out, ← List.append_assoc, iv_append (out1 ++ _)]; rfl] at hown4
                have HB4 := Lib.hid ((hb.alloc (show w.heap.size + 1 ≤ wr.heap.size by omega) (.cells #[.int .i64 t] 3)).grown hgrow (by simp; omega) (fun k hk => (hown9.lt k hk).1))
                have HO4 := Lib.hid hown4
                clear hown4 hgrow hown9
                go_wp2
                go_roundw
                case rel => first
                  | exact ⟨x + 1, mm + 1, by omega, by go_num, HM1.out, HO4.out, HB4.out⟩
                  | (repeat apply Exists.intro
                     exact ⟨⟨x + 1, mm + 1, by omega, by go_num, HM1.out, HO4.out, HB4.out⟩, rfl⟩)
                case measure => simp [intOf]; omega
              | false =>
                rw [hf] at hand HFIT
                have HX := Lib.hid (HNO.out HFIT.out)
                have HM1 := Lib.hid (show mm = (out1 ++ mvX N n p q l o y (x + 1)).length from by rw [HX.out]; exact HMM.out)
                have HO4 := Lib.hid (show wr.ownsRow (w.heap.size + 1) 3 1 _ mm (iv (out1 ++ mvX N n p q l o y (x + 1))) from by rw [HX.out]; exact hown9)
                clear hf hown9
                go_wp2
                go_roundw
                case rel => exact ⟨x + 1, mm, by omega, by go_num, HM1.out, HO4.out, hb⟩
                case measure => simp [intOf]; omega
            · obtain rfl : x = X := by omega
              have hx2 : ¬ (x : Int) < cx := by omega
              have HM1 := Lib.hid (show mm = (mvY N n p q l o (y + 1)).length from by rw [HSS.out]; exact hmm.out)
              have HO1 := Lib.hid (show wr.ownsRow (w.heap.size + 1) 3 1 _ mm (iv (mvY N n p q l o (y + 1))) from by rw [HSS.out]; exact hown.out)
              clear hmm hown hbx c0
              go_wp2
              go_roundw
              case rel => exact ⟨y + 1, mm, by omega, by go_num, HM1.out, HO1.out, hb⟩
              case measure => simp [intOf]; omega
        · obtain rfl : y = Y := by omega
          have hy2 : ¬ (y : Int) < cy := by omega
          have HO1 := Lib.hid (show wr.ownsRow w.heap.size 3 1 _ (mvO N n l o).length (iv (mvO N n l o)) from by rw [HMO.out, ← hmm.out]; exact own_below hown.out (by omega))
          have HBF := Lib.hid (HBW.out.trans (hb.mono (by omega)))
          clear hmm hown hbx c0 hb
          go_wp2
          go_ret
          exact ⟨_, rfl, HO1.out, HBF.out⟩
end

end Go.Proofs.YtkjlmgkjcmebbaaGreatDoor
