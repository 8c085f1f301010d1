/-
  Lists of shapes in the model: what is put in order.
  Orientations, the canonical one, in the model.
-/
import Derived.Test.YtkjlmgkjcmebbaaGreatDoorWak
import Derived.Test.YtkjlmgkjcmebbaaGreatDoorWaj
namespace Go.Proofs.YtkjlmgkjcmebbaaGreatDoor

section
open Go.RowKit

/-- A slice value that reads as a list of cells. -/
def SlAt (B : Nat) (w : World) (v : Value) (l : List Cl) : Prop := ∃ a cap, v = .slice a l.length cap ∧ CellsAt B w a l.length l ∧ l.length ≤ 4194304
theorem SlAt.on {B : Nat} {w w' : World} {v : Value} {l : List Cl} (h : SlAt B w v l) (hb : Below B w w') : SlAt B w' v l := by
  obtain ⟨a, cap, e, hc, hn⟩ := h
  exact ⟨a, cap, e, hc.on hb, hn⟩
theorem SlAt.more {B B' : Nat} {w : World} {v : Value} {l : List Cl} (h : SlAt B w v l) (hB : B ≤ B') : SlAt B' w v l := by
  obtain ⟨a, cap, e, hc, hn⟩ := h
  exact ⟨a, cap, e, hc.more hB, hn⟩
/-- The cells of a block that read as a list of shapes. -/
def SsAt (B : Nat) (w : World) (g : Nat) (vs : List Value) (L : List (List Cl)) : Prop := g < B ∧ vs.length = L.length ∧ (∀ k, k < L.length → w.cell? ⟨g, k, none⟩ = vs[k]?) ∧ ∀ (k : Nat) (v : Value) (l : List Cl), vs[k]? = some v → L[k]? = some l → SlAt B w v l
theorem SsAt.on {B g : Nat} {w w' : World} {vs : List Value} {L : List (List Cl)} (h : SsAt B w g vs L) (hb : Below B w w') : SsAt B w' g vs L :=
  ⟨h.1, h.2.1, fun k hk => (hb.cell (p := ⟨g, k, none⟩) h.1).trans (h.2.2.1 k hk), fun k v l hv hl => (h.2.2.2 k v l hv hl).on hb⟩
theorem SsAt.more {B B' g : Nat} {w : World} {vs : List Value} {L : List (List Cl)} (h : SsAt B w g vs L) (hB : B ≤ B') : SsAt B' w g vs L :=
  ⟨Nat.lt_of_lt_of_le h.1 hB, h.2.1, h.2.2.1, fun k v l hv hl => (h.2.2.2 k v l hv hl).more hB⟩
theorem SsAt.get {B g : Nat} {w : World} {vs : List Value} {L : List (List Cl)} (h : SsAt B w g vs L) {k : Nat} (hk : k < L.length) : ∃ a cap, w.cell? ⟨g, k, none⟩ = some (.slice a (L.getD k []).length cap) ∧ CellsAt B w a (L.getD k []).length (L.getD k []) ∧ (L.getD k []).length ≤ 4194304 := by
  have h1 := h.2.2.1 k hk
  have h2 : vs[k]? = some (vs[k]'(by rw [h.2.1]; exact hk)) := List.getElem?_eq_getElem _
  have h3 : L[k]? = some (L.getD k []) := by simp [List.getD, hk]
  obtain ⟨a, cap, e, hc, hn⟩ := h.2.2.2 k _ _ h2 h3
  exact ⟨a, cap, by rw [h1, h2, e], hc, hn⟩
theorem SsAt.one {B g : Nat} {w : World} {vs : List Value} {L : List (List Cl)} (h : SsAt B w g vs L) : ∀ u ∈ vs, u.oneCell' = true := by
  intro u hu
  obtain ⟨k, hk, rfl⟩ := List.getElem_of_mem hu
  have hk2 : k < L.length := by rw [← h.2.1]; exact hk
  obtain ⟨a, cap, e, _⟩ := h.2.2.2 k _ _ (List.getElem?_eq_getElem hk) (List.getElem?_eq_getElem hk2)
  rw [e]
  rfl
theorem get_ins {α : Type} (l : List α) (x : α) (j k : Nat) (hj : j ≤ l.length) : (l.take j ++ [x] ++ l.drop j)[k]? = if k < j then l[k]? else if k = j then some x else l[k - 1]? := by
  have hl : (l.take j).length = j := by rw [List.length_take]; omega
  by_cases h1 : k < j
  · rw [if_pos h1, List.append_assoc, List.getElem?_append_left (by omega), List.getElem?_take, if_pos h1]
  · rw [if_neg h1]
    by_cases h2 : k = j
    · subst h2
      rw [if_pos rfl, List.append_assoc, List.getElem?_append_right (by omega), hl]
      simp
    · rw [if_neg h2, List.getElem?_append_right (by simp; omega), List.getElem?_drop]
      congr 1
      simp
      omega
theorem LiesV.on {w w' : World} {b off B : Nat} {l : List Value} (h : LiesV w ⟨b, off, none⟩ l) (hb : Below B w w') (hlt : b < B) : LiesV w' ⟨b, off, none⟩ l := fun j u hj => by
  rw [add_at]
  have := h j u hj
  rw [add_at] at this
  exact (hb.cell (p := ⟨b, off + j, none⟩) hlt).trans this
theorem SsAt.lies {B g : Nat} {w : World} {vs : List Value} {L : List (List Cl)} (h : SsAt B w g vs L) (k m : Nat) : LiesV w ⟨g, k, none⟩ ((vs.drop k).take m) := by
  intro j u hj
  rw [add_at]
  rw [List.getElem?_take] at hj
  split at hj
  · rw [List.getElem?_drop] at hj
    have hlt := (List.getElem?_eq_some_iff.1 hj).1
    rw [h.2.2.1 (k + j) (by rw [← h.2.1]; exact hlt), hj]
  · cases hj
/-- A shape put between. -/
theorem ss_ins {B g g3 c3 j N : Nat} {w w3 : World} {vs : List Value} {sv : Value} {L : List (List Cl)} {s : List Cl} {t : TypeId} {b3 : Nat} (h : SsAt B w g vs L) (hs : SlAt B w sv s) (hj : j ≤ L.length) (hB : B ≤ w.heap.size) (hb : Below w.heap.size w w3)
    (hown : w3.ownsRow b3 t 1 (.slice (some ⟨g3, 0, none⟩) N c3) N (vs.take j ++ [sv] ++ vs.drop j)) : SsAt w3.heap.size w3 g3 (vs.take j ++ [sv] ++ vs.drop j) (L.take j ++ [s] ++ L.drop j) := by
  have hl : (vs.take j ++ [sv] ++ vs.drop j).length = (L.take j ++ [s] ++ L.drop j).length := by simp [h.2.1]
  refine ⟨(hown.lt g3 rfl).2, hl, fun k hk => ?_, fun k v l hv hl2 => ?_⟩
  · exact hown.cellAt k (by have h9 := hown.1; rw [hl] at h9; omega)
  · rw [get_ins _ _ _ _ (by rw [h.2.1]; exact hj)] at hv
    rw [get_ins _ _ _ _ hj] at hl2
    have hsz := hb.size
    split at hv
    · rename_i h1
      rw [if_pos h1] at hl2
      exact ((h.2.2.2 k v l hv hl2).on (hb.mono hB)).more (Nat.le_trans hB hsz)
    · rename_i h1
      rw [if_neg h1] at hl2
      split at hv
      · rename_i h2
        rw [if_pos h2] at hl2
        injection hv with hv
        injection hl2 with hl2
        subst hv hl2
        exact (hs.on (hb.mono hB)).more (Nat.le_trans hB hsz)
      · rename_i h2
        rw [if_neg h2] at hl2
        exact ((h.2.2.2 (k - 1) v l hv hl2).on (hb.mono hB)).more (Nat.le_trans hB hsz)
theorem own_lit_s {w : World} {B N : Nat} (h : w.heap.size = N) (hB : B ≤ N) : (w.alloc (.cells #[] 95)).ownsRow B 95 1 (.slice (some ⟨N, 0, none⟩) 0 0) 0 [] := by subst h; exact World.ownsRow_lit (base := B) (e := 95) (size := 1) w #[] 0 hB (by simp [maxLen]) rfl
/-- A list of shapes comes back. -/
def GivesSs (w : World) (L : List (List Cl)) (e : Ending) (w' : World) : Prop := ∃ g cap vs, e = .returned (.slice (some ⟨g, 0, none⟩) L.length cap) ∧ L.length ≤ cap ∧ SsAt w'.heap.size w' g vs L ∧ Below w.heap.size w w'

theorem posG_step {x : List Cl} {o : List (List Cl)} {k : Nat} (h : ltS x (o.getD k []) = true) : posG ltS [] x o (k + 1) = posG ltS [] x o k := if_pos h
theorem posG_stop {x : List Cl} {o : List (List Cl)} {k : Nat} (h : ltS x (o.getD k []) = false) : posG ltS [] x o (k + 1) = k + 1 := if_neg (by rw [h]; simp)
theorem insG_yes {x : List Cl} {o : List (List Cl)} {k : Nat} (hp : posG ltS [] x o o.length = k) (h : 0 < k ∧ o.getD (k - 1) [] = x) : insG ltS [] o x = o := by
  unfold insG
  rw [hp, if_pos h]
theorem insG_no {x : List Cl} {o : List (List Cl)} {k : Nat} (hp : posG ltS [] x o o.length = k) (h : ¬ (0 < k ∧ o.getD (k - 1) [] = x)) : insG ltS [] o x = o.take k ++ [x] ++ o.drop k := by
  unfold insG
  rw [hp, if_neg h]

theorem own_cap_s {w : World} {B n g cap : Nat} {t : TypeId} {xs : List Value} (h : w.ownsRow B t 1 (.slice (some ⟨g, 0, none⟩) n cap) n xs) : n ≤ cap := by
  rcases h.2 with ⟨e, _⟩ | ⟨g', cap', cur, e, _, _, h1, _⟩
  · cases e
  · injection e with _ _ e3
    omega

set_option maxHeartbeats 4000000 in
set_option maxRecDepth 100000 in
theorem sPut (B g n cap c2 : Nat) (a2 : Option Addr) (vs : List Value) (L : List (List Cl)) (s : List Cl) (w : World) (hn : L.length = n) (hn2 : n ≤ 1000000) (hcap : n ≤ cap) (hL : SsAt B w g vs L) (hm : s.length ≤ 4194304) (hs : CellsAt B w a2 s.length s) (hB : B ≤ w.heap.size) :
    Calls Tryz.prog 152 #[.slice (some ⟨g, 0, none⟩) n cap, .slice a2 s.length c2] w (GivesSs w (insG ltS [] L s)) := by
  have HL := Lib.hid hL
  have HS := Lib.hid hs
  have hg := hL.1
  clear hL hs
  go_enter Tryz.func152, Tryz.ntmps152
  go_wp2
  go_loopw [5] (fun q wi => ∃ j : Nat, j ≤ n ∧ q = .int .i64 j ∧ Hid (posG ltS [] s L n = posG ltS [] s L j) ∧ Below w.heap.size w wi) (fun q _ => (intOf q).toNat)
  case atStart => exact ⟨n, Nat.le_refl _, rfl, rfl, Below.refl _ _⟩
  case round =>
    obtain ⟨j, hj, rfl, hpos, hbi⟩ := hrel
    have hszi := hbi.size
    by_cases hj0 : 0 < j
    · obtain ⟨a3, c3, hcell, hc3, hn3⟩ := (HL.out.on (hbi.mono hB)).get (k := j - 1) (by omega)
      obtain ⟨t, ht⟩ : ∃ t, L.getD (j - 1) [] = t := ⟨_, rfl⟩
      rw [ht] at hc3 hn3 hcell
      have HT := Lib.hid ht
      have HC3 := Lib.hid hc3
      have hj1 : (1 : Int) ≤ (j : Int) := by omega
      have hj2 : (j : Int) - 1 < (n : Int) := by omega
      have hj3 : (0 : Int) ≤ (j : Int) - 1 := by omega
      have hj4 : ((j : Int) - 1).toNat = j - 1 := by omega
      have hjw : IntKind.i64.wrap ((j : Int) - 1) = (j : Int) - 1 := IntWalk.i64_in _ (by omega)
      clear ht hc3
      go_wp2_with fail
      refine (sCompare B s.length t.length c2 c3 a2 a3 s t wr hm hn3 (HS.out.on (hbi.mono hB)) HC3.out (Nat.le_trans hB hszi)).mono ?_
      rintro e w1 ⟨rfl, hb1⟩
      have HB1 := Lib.hid (hbi.trans (hb1.mono hszi))
      by_cases hcmp : cmpS s t < 0
      · have hp2 : posG ltS [] s L n = posG ltS [] s L (j - 1) := by
          have e := posG_step (x := s) (o := L) (k := j - 1) (by rw [HT.out]; unfold ltS; simpa using hcmp)
          rw [show j - 1 + 1 = j by omega] at e
          rw [hpos.out, e]
        have HP2 := Lib.hid hp2
        clear hp2
        go_wp2
        go_roundw
        case rel => exact ⟨j - 1, by omega, by congr 1; omega, HP2.out, HB1.out⟩
        case measure => simp [intOf]; omega
      · have hp2 : posG ltS [] s L L.length = j := by
          have e := posG_stop (x := s) (o := L) (k := j - 1) (by rw [HT.out]; unfold ltS; simpa using hcmp)
          rw [show j - 1 + 1 = j by omega] at e
          rw [hn, hpos.out, e]
        have HP2 := Lib.hid hp2
        have hcell1 := (hb1.cell (p := ⟨g, j - 1, none⟩) (by show g < _; omega)).trans hcell
        clear hp2 hcell
        go_wp2_with fail
        refine (sEqual_any B t.length s.length c3 c2 a3 a2 t s w1 hn3 hm (HC3.out.on (hb1.mono (Nat.le_trans hB hszi))) (HS.out.on (HB1.out.mono hB)) (Nat.le_trans hB HB1.out.size)).mono ?_
        rintro e w2 ⟨rfl, hb2⟩
        have HB2 := Lib.hid (HB1.out.trans (hb2.mono HB1.out.size))
        by_cases hts : t = s
        · have he : insG ltS [] L s = L := insG_yes HP2.out ⟨hj0, by rw [HT.out]; exact hts⟩
          have hq : eqb t s = true := by simp [eqb, hts]
          have HR := Lib.hid (show GivesSs w (insG ltS [] L s) (.returned (.slice (some ⟨g, 0, none⟩) n cap)) w2 from by
            rw [he]
            exact ⟨g, cap, vs, by rw [hn], by omega, (HL.out.on (HB2.out.mono hB)).more (Nat.le_trans hB HB2.out.size), HB2.out⟩)
          clear he hcell1
          rw [hq]
          go_wp2
          go_ret
          exact HR.out
        · have he : insG ltS [] L s = L.take j ++ [s] ++ L.drop j := insG_no HP2.out (fun h => hts (by rw [← HT.out]; exact h.2))
          have hq : eqb t s = false := by simp [eqb, hts]
          have HE := Lib.hid he
          rw [hq]
          clear he hcell1 hq
          go_wp2_with fail
          clear hj1 hj2 hj3 hj4 hjw hcmp hts hn3 hb1 hb2 HC3 HT HB1 hbi hszi HP2 hpos
          obtain ⟨WW, rfl⟩ : ∃ x, x = w2 := ⟨_, rfl⟩
          have hszW := HB2.out.size
          have hSS := (HL.out.on (HB2.out.mono hB)).more (Nat.le_trans hB hszW)
          have HSS := Lib.hid hSS
          have HSV := Lib.hid (show SlAt WW.heap.size WW (.slice a2 s.length c2) s from ⟨a2, c2, rfl, (HS.out.on (HB2.out.mono hB)).more (Nat.le_trans hB hszW), hm⟩)
          have HONE := Lib.hid hSS.one
          have hgW := hSS.1
          have hvl : vs.length = n := by rw [hSS.2.1, hn]
          have HL1 := Lib.hid (show LiesV WW ⟨g, 0, none⟩ (vs.take j) from by have h9 := hSS.lies 0 j; simpa using h9)
          have hl2 : LiesV WW ⟨g, j, none⟩ (vs.drop j) := by have h9 := hSS.lies j (n - j); rw [List.take_of_length_le (by rw [List.length_drop, hvl]; exact Nat.le_refl _)] at h9; exact h9
          obtain ⟨bo, haj, hl3⟩ : ∃ bo : Nat, (if cap = j then some (⟨g, 0, none⟩ : Addr) else some ⟨g, j, none⟩) = some ⟨g, bo, none⟩ ∧ LiesV WW ⟨g, bo, none⟩ (vs.drop j) := by
            by_cases hcj : cap = j
            · refine ⟨0, if_pos hcj, ?_⟩
              rw [List.drop_of_length_le (by rw [hvl]; omega)]
              intro q u9 hq
              simp at hq
            · exact ⟨j, if_neg hcj, hl2⟩
          have HAJ := Lib.hid haj
          have HL2 := Lib.hid hl3
          have HVL := Lib.hid hvl
          have hjm : (j : Int) ≤ (n : Int) := by omega
          have hj00 : (0 : Int) ≤ (j : Int) := by omega
          have hjc : (j : Int) ≤ (cap : Int) := by omega
          have hmc : (n : Int) ≤ (cap : Int) := by omega
          clear haj hl2 hl3 hSS hvl
          go_region_held3 (fun w' => Held WW w')
            (first | (unfold Held; repeat' (first | exact Below.refl _ _ | exact hbS3 | exact hbS2 | exact hbS1 | refine Below.drew ?_ | refine Below.alloc ?_ ?_ _ | exact Nat.le_refl _ | exact hbS3.size | exact hbS2.size | exact hbS1.size | (simp; omega) | (simp; done))))
            (first | (refine step_shps rfl _ _ rfl WW.heap.size _ 0 0 [] ⟨g, 0, none⟩ j cap (vs.take j) rfl rfl ?a1 (by rw [List.length_take, HVL.out]; omega) ?a3 (fun u hu => HONE.out u (List.mem_of_mem_take hu)) (by omega) ?a5 _ rfl ?_; (case a1 => (first | exact own_lit_s (w := WW) rfl (Nat.le_refl _) | exact (own_lit_s (w := WW) rfl (Nat.le_refl _)).alloc _ | exact own_lit_s (w := WW.alloc _) (by simp) (by simp))); (case a3 => (refine LiesV.on HL1.out ?_ hgW; (repeat' (first | exact Below.refl _ _ | exact hbS2 | exact hbS1 | refine Below.drew ?_ | refine Below.alloc ?_ ?_ _ | exact Nat.le_refl _ | exact hbS2.size | exact hbS1.size | (have h9 := hbS1.size; simp; omega) | (simp; omega) | (simp; done))))); (case a5 => (first | (simp; done) | (simp; omega))); intro g1 c1 w1 hown1 hgrow1 hat1 hgb1 hlt1; (simp only [Nat.zero_add, List.nil_append] at hown1); have hbS1 : Below WW.heap.size WW w1 := by (refine Below.grown (w := _) ?_ hgrow1 ?_ (fun k hk => by cases hk; first | exact Nat.le_refl _ | (simp; done) | (simp; omega)) <;> (repeat' (first | exact Below.refl _ _ | exact hbS2 | exact hbS1 | refine Below.drew ?_ | refine Below.alloc ?_ ?_ _ | exact Nat.le_refl _ | exact hbS2.size | exact hbS1.size | (have h9 := hbS1.size; simp; omega) | (simp; omega) | (simp; done))))) | (refine step_shps rfl _ _ rfl WW.heap.size g1 _ c1 (vs.take j) _ 1 1 [.slice a2 s.length c2] rfl rfl ?a1 rfl ?a3 (by simp [Value.oneCell']) ?a4 ?a5 _ rfl ?_; (case a1 => ((try simp only [Nat.zero_add]); first | exact hown1 | exact hown1.alloc _)); (case a4 => omega); (case a3 => (refine liesV_block (t := 95) (fr := (0, 0)) ?_; first | exact heap_alloc_new _ _ | (refine (hgrow1.block _ ?_ ?_).trans ?_ <;> first | (simp; done) | (simp; omega) | exact new_at (w := WW.alloc _) _ (by simp) | exact (Below.heap_alloc (WW.alloc _) _ _ (by simp)).trans (new_at _ rfl)))); (case a5 => (first | exact hbS1.size | (simp; omega) | (simp; have := hbS1.size; omega))); intro g2 c2' w2' hown2 hgrow2 hat2 hgb2 hlt2; (try simp only [Nat.zero_add] at hown2); have hbS2 : Below WW.heap.size WW w2' := by (refine Below.grown (w := _) ?_ hgrow2 ?_ (fun k hk => by cases hk; exact hgb1) <;> (repeat' (first | exact Below.refl _ _ | exact hbS2 | exact hbS1 | refine Below.drew ?_ | refine Below.alloc ?_ ?_ _ | exact Nat.le_refl _ | exact hbS2.size | exact hbS1.size | (have h9 := hbS1.size; simp; omega) | (simp; omega) | (simp; done))))) | (refine step_shps rfl _ _ rfl WW.heap.size g2 _ c2' (vs.take j ++ [.slice a2 s.length c2]) ⟨g, bo, none⟩ (n - j) (cap - j) (vs.drop j) rfl (congrArg (fun z => Value.slice z (n - j) (cap - j)) HAJ.out) ?a1 ?a2 ?a3 (fun u hu => HONE.out u (List.mem_of_mem_drop hu)) ?a4 ?a5 _ rfl ?_; (case a2 => (rw [List.length_drop, HVL.out])); (case a1 => ((try simp only [Nat.zero_add]); exact hown2)); (case a4 => omega); (case a3 => (exact LiesV.on HL2.out hbS2 hgW)); (case a5 => (exact hbS2.size)); intro g3 c3' w3 hown3 hgrow3 hat3 hgb3 hlt3; have hbS3 : Below WW.heap.size WW w3 := Below.grown hbS2 hgrow3 hbS2.size (fun k hk => by cases hk; exact hgb2)))
          all_goals
            (try simp only [Nat.zero_add] at hown3)
            have HB3 := Lib.hid (HB2.out.trans (hbS3.mono hszW))
            have hss := ss_ins HSS.out HSV.out (by rw [hn]; exact hj) (Nat.le_refl _) hbS3 hown3
            have hlen : (insG ltS [] L s).length = j + 1 + (n - j) := by rw [HE.out]; simp [hn]; omega
            have hc9 : j + 1 + (n - j) ≤ c3' := own_cap_s hown3
            have HR := Lib.hid (show GivesSs w (insG ltS [] L s) (.returned (.slice (some ⟨g3, 0, none⟩) (j + 1 + (n - j)) c3')) w3 from ⟨g3, c3', _, by rw [hlen], by rw [hlen]; exact hc9, by rw [HE.out]; exact hss, HB3.out⟩)
            clear hown1 hown2 hown3 hbS1 hbS2 hbS3 hgrow1 hgrow2 hgrow3 hss hlen
            simp only [Exit.then]
            go_wp2
            all_goals
              go_ret
              exact HR.out
    · have hp2 : posG ltS [] s L L.length = 0 := by
        rw [hn, hpos.out, show j = 0 by omega]
        rfl
      have he : insG ltS [] L s = L.take j ++ [s] ++ L.drop j := by
        have h9 := insG_no hp2 (fun h => by omega)
        rw [show j = 0 by omega]
        exact h9
      have HE := Lib.hid he
      have hd : decide ((0 : Int) < (j : Int)) = false := by simp; omega
      have HB2 := Lib.hid hbi
      clear hp2 he
      go_wp2_with fail
      clear hbi hszi hd hpos
      obtain ⟨WW, rfl⟩ : ∃ x, x = wr := ⟨_, rfl⟩
      have hszW := HB2.out.size
      have hSS := (HL.out.on (HB2.out.mono hB)).more (Nat.le_trans hB hszW)
      have HSS := Lib.hid hSS
      have HSV := Lib.hid (show SlAt WW.heap.size WW (.slice a2 s.length c2) s from ⟨a2, c2, rfl, (HS.out.on (HB2.out.mono hB)).more (Nat.le_trans hB hszW), hm⟩)
      have HONE := Lib.hid hSS.one
      have hgW := hSS.1
      have hvl : vs.length = n := by rw [hSS.2.1, hn]
      have HL1 := Lib.hid (show LiesV WW ⟨g, 0, none⟩ (vs.take j) from by have h9 := hSS.lies 0 j; simpa using h9)
      have hl2 : LiesV WW ⟨g, j, none⟩ (vs.drop j) := by have h9 := hSS.lies j (n - j); rw [List.take_of_length_le (by rw [List.length_drop, hvl]; exact Nat.le_refl _)] at h9; exact h9
      obtain ⟨bo, haj, hl3⟩ : ∃ bo : Nat, (if cap = j then some (⟨g, 0, none⟩ : Addr) else some ⟨g, j, none⟩) = some ⟨g, bo, none⟩ ∧ LiesV WW ⟨g, bo, none⟩ (vs.drop j) := by
        by_cases hcj : cap = j
        · refine ⟨0, if_pos hcj, ?_⟩
          rw [List.drop_of_length_le (by rw [hvl]; omega)]
          intro q u9 hq
          simp at hq
        · exact ⟨j, if_neg hcj, hl2⟩
      have HAJ := Lib.hid haj
      have HL2 := Lib.hid hl3
      have HVL := Lib.hid hvl
      have hjm : (j : Int) ≤ (n : Int) := by omega
      have hj00 : (0 : Int) ≤ (j : Int) := by omega
      have hjc : (j : Int) ≤ (cap : Int) := by omega
      have hmc : (n : Int) ≤ (cap : Int) := by omega
      clear haj hl2 hl3 hSS hvl
      go_region_held3 (fun w' => Held WW w')
        (first | (unfold Held; repeat' (first | exact Below.refl _ _ | exact hbS3 | exact hbS2 | exact hbS1 | refine Below.drew ?_ | refine Below.alloc ?_ ?_ _ | exact Nat.le_refl _ | exact hbS3.size | exact hbS2.size | exact hbS1.size | (simp; omega) | (simp; done))))
        (first | (refine step_shps rfl _ _ rfl WW.heap.size _ 0 0 [] ⟨g, 0, none⟩ j cap (vs.take j) rfl rfl ?a1 (by rw [List.length_take, HVL.out]; omega) ?a3 (fun u hu => HONE.out u (List.mem_of_mem_take hu)) (by omega) ?a5 _ rfl ?_; (case a1 => (first | exact own_lit_s (w := WW) rfl (Nat.le_refl _) | exact (own_lit_s (w := WW) rfl (Nat.le_refl _)).alloc _ | exact own_lit_s (w := WW.alloc _) (by simp) (by simp))); (case a3 => (refine LiesV.on HL1.out ?_ hgW; (repeat' (first | exact Below.refl _ _ | exact hbS2 | exact hbS1 | refine Below.drew ?_ | refine Below.alloc ?_ ?_ _ | exact Nat.le_refl _ | exact hbS2.size | exact hbS1.size | (have h9 := hbS1.size; simp; omega) | (simp; omega) | (simp; done))))); (case a5 => (first | (simp; done) | (simp; omega))); intro g1 c1 w1 hown1 hgrow1 hat1 hgb1 hlt1; (simp only [Nat.zero_add, List.nil_append] at hown1); have hbS1 : Below WW.heap.size WW w1 := by (refine Below.grown (w := _) ?_ hgrow1 ?_ (fun k hk => by cases hk; first | exact Nat.le_refl _ | (simp; done) | (simp; omega)) <;> (repeat' (first | exact Below.refl _ _ | exact hbS2 | exact hbS1 | refine Below.drew ?_ | refine Below.alloc ?_ ?_ _ | exact Nat.le_refl _ | exact hbS2.size | exact hbS1.size | (have h9 := hbS1.size; simp; omega) | (simp; omega) | (simp; done))))) | (refine step_shps rfl _ _ rfl WW.heap.size g1 _ c1 (vs.take j) _ 1 1 [.slice a2 s.length c2] rfl rfl ?a1 rfl ?a3 (by simp [Value.oneCell']) ?a4 ?a5 _ rfl ?_; (case a1 => ((try simp only [Nat.zero_add]); first | exact hown1 | exact hown1.alloc _)); (case a4 => omega); (case a3 => (refine liesV_block (t := 95) (fr := (0, 0)) ?_; first | exact heap_alloc_new _ _ | (refine (hgrow1.block _ ?_ ?_).trans ?_ <;> first | (simp; done) | (simp; omega) | exact new_at (w := WW.alloc _) _ (by simp) | exact (Below.heap_alloc (WW.alloc _) _ _ (by simp)).trans (new_at _ rfl)))); (case a5 => (first | exact hbS1.size | (simp; omega) | (simp; have := hbS1.size; omega))); intro g2 c2' w2' hown2 hgrow2 hat2 hgb2 hlt2; (try simp only [Nat.zero_add] at hown2); have hbS2 : Below WW.heap.size WW w2' := by (refine Below.grown (w := _) ?_ hgrow2 ?_ (fun k hk => by cases hk; exact hgb1) <;> (repeat' (first | exact Below.refl _ _ | exact hbS2 | exact hbS1 | refine Below.drew ?_ | refine Below.alloc ?_ ?_ _ | exact Nat.le_refl _ | exact hbS2.size | exact hbS1.size | (have h9 := hbS1.size; simp; omega) | (simp; omega) | (simp; done))))) | (refine step_shps rfl _ _ rfl WW.heap.size g2 _ c2' (vs.take j ++ [.slice a2 s.length c2]) ⟨g, bo, none⟩ (n - j) (cap - j) (vs.drop j) rfl (congrArg (fun z => Value.slice z (n - j) (cap - j)) HAJ.out) ?a1 ?a2 ?a3 (fun u hu => HONE.out u (List.mem_of_mem_drop hu)) ?a4 ?a5 _ rfl ?_; (case a2 => (rw [List.length_drop, HVL.out])); (case a1 => ((try simp only [Nat.zero_add]); exact hown2)); (case a4 => omega); (case a3 => (exact LiesV.on HL2.out hbS2 hgW)); (case a5 => (exact hbS2.size)); intro g3 c3' w3 hown3 hgrow3 hat3 hgb3 hlt3; have hbS3 : Below WW.heap.size WW w3 := Below.grown hbS2 hgrow3 hbS2.size (fun k hk => by cases hk; exact hgb2)))
      all_goals
        (try simp only [Nat.zero_add] at hown3)
        have HB3 := Lib.hid (HB2.out.trans (hbS3.mono hszW))
        have hss := ss_ins HSS.out HSV.out (by rw [hn]; exact hj) (Nat.le_refl _) hbS3 hown3
        have hlen : (insG ltS [] L s).length = j + 1 + (n - j) := by rw [HE.out]; simp [hn]; omega
        have hc9 : j + 1 + (n - j) ≤ c3' := own_cap_s hown3
        have HR := Lib.hid (show GivesSs w (insG ltS [] L s) (.returned (.slice (some ⟨g3, 0, none⟩) (j + 1 + (n - j)) c3')) w3 from ⟨g3, c3', _, by rw [hlen], by rw [hlen]; exact hc9, by rw [HE.out]; exact hss, HB3.out⟩)
        clear hown1 hown2 hown3 hbS1 hbS2 hbS3 hgrow1 hgrow2 hgrow3 hss hlen
        simp only [Exit.then]
        go_wp2
        all_goals
          go_ret
          exact HR.out
end

section
open Go.RowKit

/-- A list of cells comes back, in whose memory is not said. -/
def GivesAt (w : World) (l : List Cl) (e : Ending) (w' : World) : Prop := ∃ a cap, e = .returned (.slice a l.length cap) ∧ CellsAt w'.heap.size w' a l.length l ∧ Below w.heap.size w w'
theorem sortG_turns (l : List Cl) (k : Nat) : sortG ltS [] (turnsC l (k + 1)) = insG ltS [] (sortG ltS [] (turnsC l k)) (turnC k l) := by
  rw [turnsC_succ]
  unfold sortG
  rw [List.foldl_append]
  rfl
theorem insG_len {α : Type} [DecidableEq α] (lt : α → α → Bool) (d : α) (o : List α) (x : α) : (insG lt d o x).length ≤ o.length + 1 := by
  unfold insG
  split
  · omega
  · simp; omega
theorem sortT_len (l : List Cl) : ∀ k, (sortG ltS [] (turnsC l k)).length ≤ k
  | 0 => by simp [turnsC, sortG]
  | k + 1 => by
    rw [sortG_turns]
    have := insG_len ltS [] (sortG ltS [] (turnsC l k)) (turnC k l)
    have := sortT_len l k
    omega
theorem turnC_inC {l : List Cl} (h : ∀ c ∈ l, inP c = true) (m : Nat) : ∀ c ∈ turnC m l, InC c := by
  have hmi := map_apM_in m l h
  have hsi : ∀ c ∈ sortU (l.map (apM m)), inR 7 c := fun c hc => hmi c ((sortU_mem _ c).1 hc)
  have bx := minTo_bdW Prod.fst (sortU (l.map (apM m))) (fun j hj => by have := hsi _ (getD_mem hj); unfold inR at this; omega) _ (Nat.le_refl _)
  have bY := minTo_bdW Prod.snd (sortU (l.map (apM m))) (fun j hj => by have := hsi _ (getD_mem hj); unfold inR at this; omega) _ (Nat.le_refl _)
  intro c hc
  unfold turnC cornerC at hc
  obtain ⟨d, hd, rfl⟩ := List.mem_map.1 hc
  have := hsi d hd
  unfold inR at this
  unfold minX minY InC
  dsimp only
  omega

set_option maxHeartbeats 2000000 in
set_option maxRecDepth 100000 in
theorem sOrient (B n cap : Nat) (a : Option Addr) (l : List Cl) (w : World) (hn : n ≤ 1048576) (hc : CellsAt B w a n l) (hB : B ≤ w.heap.size) :
    Calls Tryz.prog 124 #[.slice a n cap] w (GivesSs w (orientS l)) := by
  have H := Lib.hid hc
  clear hc
  cases h : isShape l with
  | true =>
    have hp := isShape_in h
    have hlen := ((isShape_iff l).1 h).1.2
    have HP := Lib.hid hp
    have HS := Lib.hid h
    have HO : Hid (orientS l = sortG ltS [] (turnsC l 8)) := if_pos h
    rw [HO.out]
    clear h hp
    go_enter Tryz.func124, Tryz.ntmps124
    go_wp2
    go_loopw [3, 4] (fun v i wr => ∃ (k g cc : Nat) (vs : List Value), k ≤ 8 ∧ i = .int .i64 k ∧ v = .slice (some ⟨g, 0, none⟩) (sortG ltS [] (turnsC l k)).length cc ∧ (sortG ltS [] (turnsC l k)).length ≤ cc ∧ Hid (SsAt wr.heap.size wr g vs (sortG ltS [] (turnsC l k))) ∧ Below w.heap.size w wr) (fun _ i _ => 8 - (intOf i).toNat)
    case atStart => exact ⟨0, w.heap.size, 0, [], by omega, rfl, rfl, Nat.le_refl _, ⟨by simp, rfl, fun k hk => by simp [turnsC, sortG] at hk, fun k v l h1 _ => by simp at h1⟩, (Below.refl _ _).alloc (Nat.le_refl _) _⟩
    case round =>
      obtain ⟨k, g, cc, vs, hk, rfl, rfl, hlc, hss, hb⟩ := hrel
      have hsz := hb.size
      by_cases hlt : k < 8
      · have hk1 : (k : Int) < 8 := by omega
        have hle := sortT_len l k
        go_wp2_with fail
        refine (sIsShape B n cap a l wr (by omega) (H.out.on (hb.mono hB)) (Nat.le_trans hB hsz)).mono ?_
        rintro e w1 ⟨rfl, hb1⟩
        rw [HS.out]
        have HB1 := Lib.hid (hb.trans (hb1.mono hsz))
        have HSS1 := Lib.hid ((hss.out.on hb1).more hb1.size)
        have hsz1 := HB1.out.size
        clear hss hb1 hb
        go_wp2_with fail
        refine (sTurn B n cap k a l w1 (by omega) hn (H.out.on (HB1.out.mono hB)) HP.out (Nat.le_trans hB hsz1)).mono ?_
        rintro e w2 ⟨g2, c2, rfl, hown2, hb2⟩
        have htl := turnC_len k l
        have HA2 := Lib.hid (CellsAt.of_own hown2 (turnC_inC HP.out k))
        have HSS2 := Lib.hid ((HSS1.out.on hb2).more hb2.size)
        have HB2 := Lib.hid (HB1.out.trans (hb2.mono hsz1))
        have hll : l.length = n := H.out.1
        have htn : (turnC k l).length ≤ 4194304 := by omega
        clear hown2 hb2 HSS1 hll htl
        go_wp2_with fail
        refine (sPut w2.heap.size g (sortG ltS [] (turnsC l k)).length cc c2 _ vs (sortG ltS [] (turnsC l k)) (turnC k l) w2 rfl (by omega) hlc HSS2.out htn HA2.out (Nat.le_refl _)).mono ?_
        rintro e w3 ⟨g3, c3, vs3, rfl, hc3, hss3, hb3⟩
        rw [← sortG_turns] at hss3 hc3
        have HSS3 := Lib.hid hss3
        have HB3 := Lib.hid (HB2.out.trans (hb3.mono HB2.out.size))
        have HST := Lib.hid (sortG_turns l k)
        clear hss3 hb3
        rw [← HST.out]
        go_wp2
        go_roundw
        case rel => exact ⟨k + 1, g3, c3, vs3, by omega, by go_num, rfl, hc3, HSS3.out, HB3.out⟩
        case measure => simp [intOf]; omega
      · obtain rfl : k = 8 := by omega
        have HR := Lib.hid (show GivesSs w (sortG ltS [] (turnsC l 8)) (.returned (.slice (some ⟨g, 0, none⟩) (sortG ltS [] (turnsC l 8)).length cc)) wr from ⟨g, cc, vs, rfl, hlc, hss.out, hb⟩)
        clear hss hlc
        go_wp2
        go_ret
        exact HR.out
  | false =>
    have HS := Lib.hid h
    have HO : Hid (orientS l = []) := if_neg (by rw [h]; simp)
    rw [HO.out]
    clear h
    go_enter Tryz.func124, Tryz.ntmps124
    go_wp2
    go_loopw [3, 4] (fun v i wr => i = .int .i64 0 ∧ v = .slice (some ⟨w.heap.size, 0, none⟩) 0 0 ∧ wr = w.alloc (.cells #[] 95)) (fun _ _ _ => 0)
    case atStart => exact ⟨rfl, rfl, rfl⟩
    case round =>
      obtain ⟨rfl, rfl, rfl⟩ := hrel
      go_wp2_with fail
      refine (sIsShape B n cap a l _ (by omega) (H.out.on ((Below.refl _ _).alloc hB _)) (by simp; omega)).mono ?_
      rintro e w1 ⟨rfl, hb1⟩
      rw [HS.out]
      have hb0 : Below w.heap.size w (w.alloc (.cells #[] 95)) := (Below.refl _ _).alloc (Nat.le_refl _) _
      have hbW := hb0.trans (hb1.mono (by simp))
      have hz := hb1.size
      have HR := Lib.hid (show GivesSs w [] (.returned (.slice (some ⟨w.heap.size, 0, none⟩) ([] : List (List Cl)).length 0)) w1 from ⟨w.heap.size, 0, [], rfl, Nat.le_refl _, ⟨by simp at hz; omega, rfl, fun k hk => by simp at hk, fun k v l h1 _ => by simp at h1⟩, hbW⟩)
      clear hb1 hbW hb0 hz
      go_wp2
      go_ret
      exact HR.out

theorem canonS_of (l : List Cl) : canonS l = [] ∨ ∃ m, canonS l = turnC m l := by
  unfold canonS orientS
  split
  · cases hL : sortG ltS [] (turnsC l 8) with
    | nil => exact .inl rfl
    | cons x L =>
      have hx : x ∈ sortG ltS [] (turnsC l 8) := by rw [hL]; simp
      rw [sortG_mem ordS] at hx
      obtain ⟨m, _, rfl⟩ := List.mem_map.1 hx
      exact .inr ⟨m, rfl⟩
  · exact .inl rfl
theorem canonS_len (l : List Cl) : (canonS l).length ≤ l.length := by
  rcases canonS_of l with e | ⟨m, e⟩
  · rw [e]; simp
  · rw [e]; exact turnC_len m l
theorem ret_Bo {a b : Bool} (h : a = b) : Ending.returned (.bool a) = .returned (.bool b) := by rw [h]
end

end Go.Proofs.YtkjlmgkjcmebbaaGreatDoor
